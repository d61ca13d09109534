package knife_test

import (
	"slices"
	"strings"
	"sync"
	"testing"

	"earmark/api"
	"earmark/ear"
	"earmark/weather"
)

// The tests compare the package with a plain reading of the chapter: an ear as its short notation, in which a cut changes bytes, a table of what all cuts make of all ears, and searches that go through everything. What steps make of ears is taken from package weather.

// notations are those of all well-formed cuts, in the order of the cuts.
var notations = []string{
	"cut tip slit", "cut tip forked", "cut tip hollowed", "cut tip cropped",
	"cut upper 0 notch", "cut upper 0 bit", "cut upper 0 key", "cut upper 1 notch", "cut upper 1 bit", "cut upper 1 key",
	"cut upper 2 notch", "cut upper 2 bit", "cut upper 2 key", "cut upper 3 notch", "cut upper 3 bit", "cut upper 3 key",
	"cut lower 0 notch", "cut lower 0 bit", "cut lower 0 key", "cut lower 1 notch", "cut lower 1 bit", "cut lower 1 key",
	"cut lower 2 notch", "cut lower 2 bit", "cut lower 2 key", "cut lower 3 notch", "cut lower 3 bit", "cut lower 3 key",
	"punch 0", "punch 1", "punch 2",
	"open upper 0", "open upper 1", "open upper 2", "open lower 0", "open lower 1", "open lower 2",
}

// cuts are the well-formed cuts in their order.
var cuts = wellFormedCuts()

func wellFormedCuts() []api.Cut {
	var l []api.Cut
	for to := 1; to <= 4; to++ {
		l = append(l, api.Cut{Kind: 1, To: to})
	}
	for slot := range 8 {
		for to := 1; to <= 3; to++ {
			l = append(l, api.Cut{Kind: 2, Edge: slot / 4, At: slot % 4, To: to})
		}
	}
	for at := range 3 {
		l = append(l, api.Cut{Kind: 3, At: at})
	}
	for hole := range 6 {
		l = append(l, api.Cut{Kind: 4, Edge: hole / 3, At: hole % 3})
	}
	return l
}

func cutOf(s string) api.Cut { return cuts[slices.Index(notations, s)] }

// make1 returns what a well-formed cut makes of an ear in short notation; "" if it does not apply.
func make1(short string, c api.Cut) string {
	b := []byte(short)
	edge := b[1+4*c.Edge : 5+4*c.Edge]
	holes := b[9:12]
	crowded := c.At > 0 && edge[c.At-1] != '.' || c.At < 3 && edge[c.At+1] != '.'
	switch c.Kind {
	case 1:
		const tips = "wsfhc"
		if strings.IndexByte(tips, b[0]) >= c.To {
			return ""
		}
		b[0] = tips[c.To]
		if c.To >= 3 {
			b[4], b[8] = '.', '.'
		}
	case 2:
		const values = ".nbk"
		if strings.IndexByte(values, edge[c.At]) >= c.To {
			return ""
		}
		if edge[c.At] == '.' && (crowded || c.At == 3 && (b[0] == 'h' || b[0] == 'c')) {
			return ""
		}
		edge[c.At] = values[c.To]
	case 3:
		if holes[c.At] == 'o' || b[1+c.At] == 'k' || b[5+c.At] == 'k' {
			return ""
		}
		holes[c.At] = 'o'
	case 4:
		if holes[c.At] == '.' || crowded {
			return ""
		}
		holes[c.At] = '.'
		if edge[c.At] == '.' {
			edge[c.At] = 'b'
		} else {
			edge[c.At] = 'k'
		}
	}
	return string(b)
}

// move is a change of an ear, as one of the near ear, and the code of the ear that it makes.
type move struct {
	change api.Change
	to     int
}

// world is what all cuts and steps make of all valid ears, each of which stands for its code.
type world struct {
	ears  []api.Ear
	made  [][]int // made[e][i]: of e by cuts[i]; -1 if it does not apply
	moves [][]move
}

var all = sync.OnceValue(func() world {
	w := world{moves: make([][]move, ear.Count())}
	codes := map[string]int{}
	var shorts []string
	for n := range ear.Count() {
		e, _ := ear.FromCode(n)
		s, _ := ear.Short(e)
		w.ears = append(w.ears, e)
		shorts = append(shorts, s)
		codes[s] = n
	}
	for _, short := range shorts {
		made := make([]int, len(cuts))
		for i, c := range cuts {
			made[i] = -1
			if x := make1(short, c); x != "" {
				code, ok := codes[x]
				if !ok {
					panic("a cut makes " + x + " of " + short)
				}
				made[i] = code
			}
		}
		w.made = append(w.made, made)
	}
	return w
})

// moves returns the changes that apply to an ear, in their order: steps, then cuts.
func moves(n int) []move {
	w := all()
	if w.moves[n] != nil {
		return w.moves[n]
	}
	l := []move{}
	steps, _ := weather.Steps(w.ears[n])
	for _, s := range steps {
		made, _ := weather.Apply(w.ears[n], s)
		l = append(l, move{api.Change{Step: s}, codeOf(made)})
	}
	for i, made := range w.made[n] {
		if made >= 0 {
			l = append(l, move{api.Change{Knife: true, Cut: cuts[i]}, made})
		}
	}
	w.moves[n] = l
	return l
}

// counts is numbers of steps and of cuts.
type counts [2]int

// and returns k with a change besides.
func (k counts) and(c api.Change) counts {
	if c.Knife {
		return counts{k[0], k[1] + 1}
	}
	return counts{k[0] + 1, k[1]}
}

func (k counts) within(b api.Budget) bool { return k[0] <= b.Weather && k[1] <= b.Cuts }

// countsOf returns, for each ear, all numbers of steps and cuts within b by exactly which it comes about from e.
func countsOf(e int, b api.Budget) map[int][]counts {
	type state struct {
		at int
		k  counts
	}
	l := map[int][]counts{}
	seen := map[state]bool{}
	for open := []state{{at: e}}; len(open) > 0; open = open[1:] {
		s := open[0]
		if seen[s] || !s.k.within(b) {
			continue
		}
		seen[s] = true
		l[s.at] = append(l[s.at], s.k)
		for _, m := range moves(s.at) {
			open = append(open, state{m.to, s.k.and(m.change)})
		}
	}
	return l
}

// cutsFrom returns the least number of cuts to each ear to which at most n lead from e.
func cutsFrom(e, n int) map[int]int {
	goes := map[int]int{e: 0}
	found := []int{e}
	for i := 0; i < n && len(found) > 0; i++ {
		var more []int
		for _, x := range found {
			for _, y := range all().made[x] {
				if y < 0 {
					continue
				}
				if _, ok := goes[y]; !ok {
					goes[y] = i + 1
					more = append(more, y)
				}
			}
		}
		found = more
	}
	return goes
}

// pair is a mark as the codes of its ears.
type pair [2]int

func pairOf(m api.Mark) pair { return pair{codeOf(m.Near), codeOf(m.Far)} }

func (p pair) mark() api.Mark { return api.Mark{Near: all().ears[p[0]], Far: all().ears[p[1]]} }

func comparePairs(a, b pair) int { return slices.Compare(a[:], b[:]) }

// leastWays returns, for each mark to which changes within b lead from m, the least sequence that does: it goes through all sequences in their order, and keeps the first one to each mark.
func leastWays(m api.Mark, b api.Budget) map[pair][]api.Change {
	type trail struct {
		at  pair
		k   counts
		way []api.Change
	}
	ways := map[pair][]api.Change{pairOf(m): {}}
	trails := []trail{{at: pairOf(m)}}
	for range b.Weather + b.Cuts {
		var longer []trail
		for _, t := range trails {
			for side := range 2 {
				for _, v := range moves(t.at[side]) {
					k := t.k.and(v.change)
					if !k.within(b) {
						continue
					}
					at := t.at
					at[side] = v.to
					v.change.Far = side == 1
					way := append(slices.Clone(t.way), v.change)
					longer = append(longer, trail{at, k, way})
					if _, ok := ways[at]; !ok {
						ways[at] = way
					}
				}
			}
		}
		trails = longer
	}
	return ways
}

// looks returns all marks that m can come to look like within b.
func looks(m api.Mark, b api.Budget) map[pair]bool {
	type state struct {
		at pair
		k  counts
	}
	l := map[pair]bool{}
	seen := map[state]bool{{at: pairOf(m)}: true}
	for open := []state{{at: pairOf(m)}}; len(open) > 0; open = open[1:] {
		s := open[0]
		l[s.at] = true
		for side := range 2 {
			for _, v := range moves(s.at[side]) {
				next := state{s.at, s.k.and(v.change)}
				next.at[side] = v.to
				if !seen[next] && next.k.within(b) {
					seen[next] = true
					open = append(open, next)
				}
			}
		}
	}
	return l
}

func codeOf(e api.Ear) int {
	n, err := ear.Code(e)
	if err != api.OK {
		panic("not a valid ear")
	}
	return n
}

// words returns the ear with this description.
func words(s string) api.Ear {
	e, _, err := ear.ParseWords(s)
	if err != api.OK {
		panic(s)
	}
	return e
}

func markOf(s string) api.Mark {
	m, _, err := ear.ParseMark(s)
	if err != api.OK {
		panic(s)
	}
	return m
}

// every returns each n-th valid ear, from the first one on.
func every(n int) []api.Ear {
	var l []api.Ear
	for i := 0; i < ear.Count(); i += n {
		l = append(l, all().ears[i])
	}
	return l
}

// rich are ears of which cuts and steps make much, or to which several ways lead.
func rich() []api.Ear {
	return []api.Ear{
		words("whole"),
		words("cropped"),
		words("slit, upper notch 0, upper notch 3, lower notch 1, lower notch 3, hole 0, hole 1, hole 2"),
		words("forked, upper key 1, lower bit 3, hole 1"),
		words("slit, upper notch 3, lower bit 0, hole 0, hole 2"),
		words("hollowed, upper notch 0, upper notch 2, hole 0"),
		words("upper notch 1, hole 1"),
		words("hole 0, hole 1, hole 2"),
		words("cropped, upper key 0, upper key 2, lower bit 1"),
	}
}

// someMarks are marks of which some can come to look like others.
func someMarks() []api.Mark {
	var l []api.Mark
	for _, s := range []string{
		"near: whole; far: whole",
		"near: slit; far: whole",
		"near: upper notch 1; far: whole",
		"near: whole; far: lower bit 2, hole 0",
		"near: upper notch 1, hole 1; far: slit, lower notch 2",
		"near: forked, upper notch 0, upper notch 2; far: hollowed, hole 2",
		"near: hole 0, hole 2, upper notch 2; far: lower key 1, lower key 3",
		"near: cropped, upper bit 0, lower key 1; far: cropped, upper key 2",
		"near: lower key 1, upper notch 2; far: cropped, lower key 1",
		"near: upper key 1, hole 2; far: whole",
	} {
		l = append(l, markOf(s))
	}
	return l
}

func budget(steps, cuts int) api.Budget { return api.Budget{Weather: steps, Cuts: cuts} }

// budgets are all valid ones.
func budgets() []api.Budget {
	return []api.Budget{budget(0, 0), budget(0, 1), budget(1, 0), budget(0, 2), budget(1, 1), budget(2, 0), budget(0, 3), budget(1, 2), budget(2, 1), budget(3, 0)}
}

// badBudgets are budgets that are not valid.
func badBudgets() []api.Budget {
	const most, least = 1<<63 - 1, -1 << 63
	return []api.Budget{
		budget(-1, 0), budget(0, -1), budget(-1, -1), budget(-1, 3), budget(4, -1), budget(5, -2), budget(-3, 6),
		budget(4, 0), budget(0, 4), budget(3, 1), budget(1, 3), budget(2, 2), budget(3, 3),
		budget(most, 0), budget(0, most), budget(most, most), budget(least, 0), budget(0, least), budget(least, least), budget(most, least), budget(least, most), budget(1, most), budget(most, 2), budget(1<<62, 1<<62), budget(1<<32, 0),
	}
}

// badCounts are numbers that are not from 0 to 3.
var badCounts = []int{-1 << 63, -1, 4, 5, 1 << 32, 1<<63 - 1}

// badEars are ears that are not valid.
func badEars() []api.Ear {
	return []api.Ear{
		{Tip: -1},
		{Tip: 5},
		{Tip: 1<<63 - 1},
		{Upper: [4]int{4}},
		{Lower: [4]int{0, 0, -1 << 63}},
		{Upper: [4]int{1, 1}},
		{Lower: [4]int{0, 2, 3}},
		{Tip: api.Cropped, Upper: [4]int{0, 0, 0, 1}},
		{Tip: api.Hollowed, Lower: [4]int{0, 0, 0, 3}},
	}
}

// badMarks are marks that are not valid.
func badMarks() []api.Mark {
	var l []api.Mark
	for _, e := range badEars() {
		l = append(l, api.Mark{Near: e}, api.Mark{Far: e}, api.Mark{Near: e, Far: e})
	}
	return l
}

// badCuts are cuts that are not well-formed.
func badCuts() []api.Cut {
	var l []api.Cut
	odd := []int{-1 << 63, -1, 0, 1, 2, 3, 4, 5, 1 << 32, 1<<63 - 1}
	for _, kind := range []int{-1 << 63, -1, 0, 1, 2, 3, 4, 5, 1 << 32, 1<<63 - 1} {
		for _, edge := range odd {
			for _, at := range odd {
				for _, to := range odd {
					if c := (api.Cut{Kind: kind, Edge: edge, At: at, To: to}); !slices.Contains(cuts, c) {
						l = append(l, c)
					}
				}
			}
		}
	}
	return l
}

// badChanges are changes that are not well-formed.
func badChanges() []api.Change {
	frost, slit := api.Step{Kind: api.FrostW}, cutOf("cut tip slit")
	l := []api.Change{
		{},
		{Far: true},
		{Knife: true},
		{Far: true, Knife: true},
		{Step: frost, Cut: slit},
		{Knife: true, Step: frost, Cut: slit},
		{Cut: slit},
		{Knife: true, Step: frost},
		{Step: frost, Cut: api.Cut{To: 1}},
		{Knife: true, Cut: slit, Step: api.Step{At: 1}},
		{Far: true, Step: frost, Cut: api.Cut{Edge: -1}},
		{Step: api.Step{Kind: 8}},
		{Step: api.Step{Kind: api.FrostW, At: 1}},
		{Far: true, Step: api.Step{Kind: api.TearW, At: 3}},
	}
	for i, c := range badCuts() {
		if i%7 == 0 {
			l = append(l, api.Change{Knife: true, Far: i%2 == 0, Cut: c})
		}
	}
	return l
}

// changes are all well-formed changes, in their order.
func changes() []api.Change {
	var l []api.Change
	for _, far := range []bool{false, true} {
		for kind := range 8 {
			for edge := range 2 {
				for at := range 4 {
					if s := (api.Step{Kind: kind, Edge: edge, At: at}); weather.Check(s) == api.OK {
						l = append(l, api.Change{Far: far, Step: s})
					}
				}
			}
		}
		for _, c := range cuts {
			l = append(l, api.Change{Far: far, Knife: true, Cut: c})
		}
	}
	return l
}

// near and far return the changes of that ear with these notations.
func near(l ...string) []api.Change { return changesOf(false, l) }

func far(l ...string) []api.Change { return changesOf(true, l) }

func changesOf(far bool, texts []string) []api.Change {
	var l []api.Change
	for _, s := range texts {
		if i := slices.Index(notations, s); i >= 0 {
			l = append(l, api.Change{Far: far, Knife: true, Cut: cuts[i]})
			continue
		}
		step, err := weather.Parse(s)
		if err != api.OK {
			panic(s)
		}
		l = append(l, api.Change{Far: far, Step: step})
	}
	return l
}

// The cuts and the changes of the tests are those of the chapter, in its order.
func TestReference(t *testing.T) {
	compare := func(a, b api.Cut) int {
		return slices.Compare([]int{a.Kind, a.Edge, a.At, a.To}, []int{b.Kind, b.Edge, b.At, b.To})
	}
	if len(cuts) != 37 || len(notations) != 37 || !slices.IsSortedFunc(cuts, compare) || len(changes()) != 2*(31+37) {
		t.Fatal("cuts")
	}
	if got := make1("w.....n....o", cutOf("open lower 2")); got != "" {
		t.Error(got)
	}
	if got := make1("s.....b..o.o", cutOf("open lower 2")); got != "" {
		t.Error(got)
	}
	if got := make1("s......n...o", cutOf("open lower 2")); got != "s......k...." {
		t.Error(got)
	}
}
