package sheets_test

import (
	"fmt"
	"math/rand"
	"slices"
	"strings"

	"earmark/api"
	"earmark/ear"
	"earmark/weather"
)

// The tests compare the package with a plain reading of the chapter: texts are printed by fmt, rolls are searched sheet by sheet, and sets of pairs are gone through one after the other.

const (
	least = -1 << 63
	most  = 1<<63 - 1
)

// The marks of a few sheep.
var (
	whole   = api.Mark{}
	notched = api.Mark{Near: api.Ear{Upper: [4]int{0, api.Notch}}}
	bitten  = api.Mark{Near: api.Ear{Upper: [4]int{0, api.Bit}}}
	cropped = api.Mark{Far: api.Ear{Tip: api.Cropped, Lower: [4]int{0, 0, api.Key}, Holes: [3]bool{true, false, true}}}
)

func headOf(sex, teeth, paint int, m api.Mark) api.Head {
	return api.Head{Sex: sex, Teeth: teeth, Paint: paint, Seen: m}
}

// part returns a sheet of day 5 in grazing 2.
func part(gathering, clerk, no, of int, heads ...api.Head) api.Sheet {
	return api.Sheet{Gathering: gathering, Clerk: clerk, Part: no, Parts: of, Day: 5, Grazing: 2, Heads: heads}
}

func rollOf(l ...api.Sheet) api.Roll { return api.Roll{Sheets: l} }

func keyOf(s api.Sheet) api.Sheetkey {
	return api.Sheetkey{Gathering: s.Gathering, Clerk: s.Clerk, Part: s.Part}
}

func isLess(a, b api.Sheetkey) bool {
	if a.Gathering != b.Gathering {
		return a.Gathering < b.Gathering
	}
	if a.Clerk != b.Clerk {
		return a.Clerk < b.Clerk
	}
	return a.Part < b.Part
}

func sameSheet(a, b api.Sheet) bool {
	return slices.Equal(a.Heads, b.Heads) && keyOf(a) == keyOf(b) && a.Parts == b.Parts && a.Day == b.Day && a.Grazing == b.Grazing
}

func sameRoll(a, b api.Roll) bool { return slices.EqualFunc(a.Sheets, b.Sheets, sameSheet) }

func sameConflict(a, b api.Conflict) bool {
	return a.Key == b.Key && sameSheet(a.A, b.A) && sameSheet(a.B, b.B)
}

func sameConflicts(a, b []api.Conflict) bool { return slices.EqualFunc(a, b, sameConflict) }

// short returns the short notation of an ear.
func short(e api.Ear) string {
	b := []byte{"wsfhc"[e.Tip]}
	for _, v := range slices.Concat(e.Upper[:], e.Lower[:]) {
		b = append(b, ".nbk"[v])
	}
	for _, punched := range e.Holes {
		if punched {
			b = append(b, 'o')
		} else {
			b = append(b, '.')
		}
	}
	return string(b)
}

func headText(h api.Head) string {
	return fmt.Sprintf("%s %d %d %s %s", []string{"ewe", "ram", "wether"}[h.Sex], h.Teeth, h.Paint, short(h.Seen.Near), short(h.Seen.Far))
}

func sheetText(s api.Sheet) string {
	text := fmt.Sprintf("sheet %d %d %d %d %d %d\n", s.Gathering, s.Clerk, s.Part, s.Parts, s.Day, s.Grazing)
	for _, h := range s.Heads {
		text += headText(h) + "\n"
	}
	return text
}

// merged returns what Merge has to return for valid sheets with at most 64 keys.
func merged(l []api.Sheet) (api.Roll, []api.Conflict) {
	l = slices.Clone(l)
	slices.SortFunc(l, func(a, b api.Sheet) int {
		if isLess(keyOf(a), keyOf(b)) {
			return -1
		}
		if isLess(keyOf(b), keyOf(a)) {
			return 1
		}
		return strings.Compare(sheetText(a), sheetText(b))
	})
	var r api.Roll
	var conflicts []api.Conflict
	for i, s := range l {
		if i > 0 && sameSheet(l[i-1], s) {
			continue
		}
		if i == 0 || keyOf(l[i-1]) != keyOf(s) {
			r.Sheets = append(r.Sheets, s)
			continue
		}
		conflicts = append(conflicts, api.Conflict{Key: keyOf(s), A: r.Sheets[len(r.Sheets)-1], B: s})
	}
	return r, conflicts
}

// mayBe tells whether the sheep of b may be that of a, by the sets of the ears to which steps lead.
func mayBe(a, b api.Sighting, k int) bool {
	if b.Day < a.Day {
		return false
	}
	if a.Head.Sex != b.Head.Sex && (a.Head.Sex != api.Ram || b.Head.Sex != api.Wether) {
		return false
	}
	teeth := a.Head.Teeth
	for day := a.Day; day+360 <= b.Day && teeth < 4; day += 360 {
		teeth++
	}
	if b.Head.Teeth < a.Head.Teeth || b.Head.Teeth > teeth+1 {
		return false
	}
	for n := range k + 1 {
		near, _ := weather.Closure(a.Head.Seen.Near, n)
		far, _ := weather.Closure(a.Head.Seen.Far, k-n)
		if slices.Contains(near, b.Head.Seen.Near) && slices.Contains(far, b.Head.Seen.Far) {
			return true
		}
	}
	return false
}

// graph tells which pairs are possible.
type graph [][]bool

func graphOf(l, m []api.Sighting, k int) graph {
	var g graph
	for _, a := range l {
		row := make([]bool, len(m))
		for j, b := range m {
			row[j] = mayBe(a, b, k)
		}
		g = append(g, row)
	}
	return g
}

// best returns the lexicographically least of the greatest sets of pairs whose first indices are at least i, by going through all sets.
func (g graph) best(i int, used []bool) [][2]int {
	if i == len(g) {
		return nil
	}
	found := g.best(i+1, used)
	for j, possible := range g[i] {
		if !possible || used[j] {
			continue
		}
		used[j] = true
		l := append([][2]int{{i, j}}, g.best(i+1, used)...)
		used[j] = false
		if len(l) > len(found) || len(l) == len(found) && isBefore(l, found) {
			found = l
		}
	}
	return found
}

func isBefore(a, b [][2]int) bool {
	return slices.CompareFunc(a, b, func(x, y [2]int) int { return slices.Compare(x[:], y[:]) }) < 0
}

// most returns how many pairs a greatest set has of the indices of l from first on and those of m that are not used.
func (g graph) most(first int, used []bool) int {
	partner := make([]int, len(used))
	for j := range partner {
		partner[j] = -1
	}
	var find func(i int, seen []bool) bool
	find = func(i int, seen []bool) bool {
		for j, possible := range g[i] {
			if possible && !used[j] && !seen[j] {
				seen[j] = true
				if partner[j] < 0 || find(partner[j], seen) {
					partner[j] = i
					return true
				}
			}
		}
		return false
	}
	count := 0
	for i := first; i < len(g); i++ {
		if find(i, make([]bool, len(used))) {
			count++
		}
	}
	return count
}

// first returns the lexicographically least of the greatest sets of pairs, by trying each pair in turn, as best does for small lists.
func (g graph) first(width int) [][2]int {
	used := make([]bool, width)
	left := g.most(0, used)
	var l [][2]int
	for i := range g {
		for j, possible := range g[i] {
			if !possible || used[j] {
				continue
			}
			used[j] = true
			if g.most(i+1, used) == left-1 {
				left--
				l = append(l, [2]int{i, j})
				break
			}
			used[j] = false
		}
	}
	return l
}

func randomEar(r *rand.Rand) api.Ear {
	e, _ := ear.FromCode(r.Intn(ear.Count()))
	return e
}

func randomHead(r *rand.Rand) api.Head {
	h := headOf(r.Intn(3), r.Intn(5), r.Intn(64), whole)
	if r.Intn(3) > 0 {
		h.Seen = api.Mark{Near: randomEar(r), Far: randomEar(r)}
	}
	return h
}

// randomSheet returns a sheet with one of few keys.
func randomSheet(r *rand.Rand) api.Sheet {
	parts := 1 + r.Intn(4)
	s := api.Sheet{Gathering: r.Intn(3) * 2, Clerk: 9 + r.Intn(3), Part: r.Intn(parts), Parts: parts, Day: 8 + r.Intn(5), Grazing: r.Intn(16)}
	for range r.Intn(3) {
		s.Heads = append(s.Heads, randomHead(r))
	}
	return s
}

func randomSheets(r *rand.Rand, n int) []api.Sheet {
	var l []api.Sheet
	for range n {
		if len(l) > 0 && r.Intn(3) == 0 {
			l = append(l, l[r.Intn(len(l))])
		} else {
			l = append(l, randomSheet(r))
		}
	}
	return l
}

// badMarks are marks one of whose ears is not valid.
func badMarks() []api.Mark {
	var l []api.Mark
	for _, e := range []api.Ear{
		{Tip: 5}, {Tip: -1}, {Upper: [4]int{0, 4}}, {Lower: [4]int{-1}}, {Upper: [4]int{1, 1}}, {Tip: api.Cropped, Lower: [4]int{0, 0, 0, 1}}, {Tip: most},
	} {
		l = append(l, api.Mark{Near: e}, api.Mark{Far: e})
	}
	return l
}

func badHeads() []api.Head {
	var l []api.Head
	for _, n := range []int{least, -1, 3, most} {
		l = append(l, headOf(n, 0, 0, whole))
	}
	for _, n := range []int{least, -1, 5, most} {
		l = append(l, headOf(0, n, 0, whole))
	}
	for _, n := range []int{least, -1, 64, most} {
		l = append(l, headOf(0, 0, n, whole))
	}
	for _, m := range badMarks() {
		l = append(l, headOf(0, 0, 0, m))
	}
	return l
}

func badSheets() []api.Sheet {
	good := part(3, 1, 1, 2, headOf(0, 0, 0, whole))
	var l []api.Sheet
	bad := func(change func(s *api.Sheet, n int), numbers ...int) {
		for _, n := range numbers {
			s := good
			change(&s, n)
			l = append(l, s)
		}
	}
	bad(func(s *api.Sheet, n int) { s.Gathering = n }, least, -1, 4096, most)
	bad(func(s *api.Sheet, n int) { s.Clerk = n }, least, -1, 4096, most)
	bad(func(s *api.Sheet, n int) { s.Part = n }, least, -1, 2, 3, 15, most)
	bad(func(s *api.Sheet, n int) { s.Parts = n }, least, -1, 0, 1, 17, most)
	bad(func(s *api.Sheet, n int) { s.Part, s.Parts = n, n }, least, 0, 1, 16, most)
	bad(func(s *api.Sheet, n int) { s.Part, s.Parts = n, n+1 }, least, -1, 16)
	bad(func(s *api.Sheet, n int) { s.Day = n }, least, -1, 1048577, most)
	bad(func(s *api.Sheet, n int) { s.Grazing = n }, least, -1, 16, most)
	bad(func(s *api.Sheet, n int) { s.Heads = make([]api.Head, n) }, 65, 1000)
	for _, h := range badHeads() {
		bad(func(s *api.Sheet, n int) { s.Heads = slices.Insert(make([]api.Head, 2), n, h) }, 0, 2)
		bad(func(s *api.Sheet, n int) { s.Heads = append(make([]api.Head, n), h) }, 63)
	}
	return l
}

// badRolls are rolls that are not valid, though all sheets of the first ones are.
func badRolls() []api.Roll {
	a := part(3, 5, 2, 4)
	l := []api.Roll{
		rollOf(a, a),
		rollOf(a, part(3, 5, 2, 3)),
		rollOf(a, part(3, 5, 1, 4)),
		rollOf(a, part(3, 4, 3, 4)),
		rollOf(a, part(2, 6, 3, 4)),
		rollOf(part(3, 5, 0, 4), part(3, 5, 2, 4), part(3, 5, 1, 4)),
		rollOf(part(1, 0, 0, 1), a, part(1, 0, 0, 1)),
		rollOf(manySheets(65)...),
	}
	for _, s := range badSheets() {
		l = append(l, rollOf(s), rollOf(part(0, 0, 0, 1), s, part(4095, 0, 0, 1)))
	}
	return l
}

// manySheets returns sheets with so many different keys, in order.
func manySheets(n int) []api.Sheet {
	var l []api.Sheet
	for i := range n {
		l = append(l, part(i/32, i/16%2, i%16, 16))
	}
	return l
}
