package sheets_test

import (
	"math/bits"
	"math/rand"
	"slices"
	"testing"

	"earmark/api"
	"earmark/sheets"
)

// places of cuts and holes of a mark that do not come back when they have grown together, each by one step.
const places = 14

// markWith returns the mark with notches and holes in the places of a set.
func markWith(set uint) api.Mark {
	var l [2]api.Ear
	for n := range places {
		if set>>n&1 == 0 {
			continue
		}
		e := &l[n/7]
		switch i := n % 7; {
		case i < 2:
			e.Upper[2*i] = api.Notch
		case i < 4:
			e.Lower[2*i-4] = api.Notch
		default:
			e.Holes[i-4] = true
		}
	}
	return api.Mark{Near: l[0], Far: l[1]}
}

// sightingsWith returns sightings with which exactly the pairs are possible that the rows name, with 4 steps: the sheep of each index j of m has one place left, and those of l have the places of the sheep that they can be, at most five each.
func sightingsWith(rows []uint, width int) ([]api.Sighting, []api.Sighting) {
	var l, m []api.Sighting
	for _, row := range rows {
		l = append(l, seen(7, headOf(0, 1, 0, markWith(row))))
	}
	for j := range width {
		m = append(m, seen(8, headOf(0, 1, 0, markWith(1<<j))))
	}
	return l, m
}

func graphWith(rows []uint, width int) graph {
	var g graph
	for _, row := range rows {
		line := make([]bool, width)
		for j := range line {
			line[j] = row>>j&1 != 0
		}
		g = append(g, line)
	}
	return g
}

// checkPairs checks Pairing, Cover and New, if exactly the pairs of g are possible and want is the pairing.
func checkPairs(t *testing.T, l, m []api.Sighting, k int, g graph, want [][2]int) {
	t.Helper()
	if got, err := sheets.Pairing(l, m, k); !slices.Equal(got, want) || err != api.OK {
		t.Fatal(g, got, err, want)
	}
	if n, err := sheets.New(l, m, k); n != len(m)-len(want) || err != api.OK {
		t.Fatal(g, n, err)
	}
	first, second, err := sheets.Cover(l, m, k)
	if len(first)+len(second) != len(want) || !isIncreasing(first, len(l)) || !isIncreasing(second, len(m)) || err != api.OK {
		t.Fatal(g, first, second, err)
	}
	for i, row := range g {
		for j, possible := range row {
			if possible && !slices.Contains(first, i) && !slices.Contains(second, j) {
				t.Fatal("not covered", g, first, second, i, j)
			}
		}
	}
}

// isIncreasing reports whether l is strictly increasing, from numbers below n.
func isIncreasing(l []int, n int) bool {
	last := -1
	for _, x := range l {
		if x <= last || x >= n {
			return false
		}
		last = x
	}
	return true
}

// P6.6: all possibilities of up to three sheep on either side, and of a few more.
func TestPairsOfFew(t *testing.T) {
	for _, size := range [][2]int{{0, 0}, {0, 3}, {3, 0}, {1, 1}, {1, 3}, {3, 1}, {2, 2}, {3, 3}, {2, 5}, {5, 2}} {
		height, width := size[0], size[1]
		for n := range 1 << (height * width) {
			var rows []uint
			for i := range height {
				rows = append(rows, uint(n)>>(i*width)&(1<<width-1))
			}
			l, m := sightingsWith(rows, width)
			g := graphWith(rows, width)
			checkPairs(t, l, m, 4, g, g.best(0, make([]bool, width)))
		}
	}
}

// P6.6: many of up to six sheep, against all sets of pairs.
func TestPairsOfSome(t *testing.T) {
	r := rand.New(rand.NewSource(72))
	for range 1500 {
		width := 1 + r.Intn(6)
		var rows []uint
		for range 1 + r.Intn(6) {
			row := uint(r.Intn(1 << width))
			if r.Intn(2) == 0 {
				row &= uint(r.Intn(1 << width))
			}
			if bits.OnesCount(row) > 5 {
				row &= row - 1
			}
			rows = append(rows, row)
		}
		l, m := sightingsWith(rows, width)
		g := graphWith(rows, width)
		want := g.best(0, make([]bool, width))
		if first := g.first(width); !slices.Equal(first, want) {
			t.Fatal("the tests disagree", g, first, want)
		}
		checkPairs(t, l, m, 4, g, want)
	}
}

// P6.6: many more sheep, with sexes, days, teeth and any marks.
func TestPairsOfMany(t *testing.T) {
	r := rand.New(rand.NewSource(73))
	sizes := 0
	for n := range 40 {
		var marks []api.Mark
		for range 1 + n%4 {
			marks = append(marks, randomMark(r))
		}
		some := func(year, steps int) []api.Sighting {
			var l []api.Sighting
			for range 20 + r.Intn(45) {
				l = append(l, randomSighting(r, marks[r.Intn(len(marks))], year, steps))
			}
			return l
		}
		l, m, k := some(1, 1), some(2, 2), n%5
		g := graphOf(l, m, k)
		want := g.first(len(m))
		checkPairs(t, l, m, k, g, want)
		sizes += len(want)
	}
	if sizes < 600 {
		t.Error(sizes)
	}
}

// P6.6: as many sheep as there may be, also where each pair makes many others change.
func TestPairsLimits(t *testing.T) {
	// The sheep i of l can be those of m from the day i on.
	chain := func(first, step int) []api.Sighting {
		var l []api.Sighting
		for i := range 64 {
			l = append(l, seen(first+step*i, headOf(0, 2, 0, whole)))
		}
		return l
	}
	var same, back [][2]int
	for i := range 64 {
		same, back = append(same, [2]int{i, i}), append(back, [2]int{i, 63 - i})
	}
	rising, falling := chain(100, 1), chain(163, -1)
	for _, x := range []struct {
		l, m []api.Sighting
		want [][2]int
	}{
		{rising, rising, same}, {rising, falling, back}, {falling, rising, back}, {falling, falling, same},
		{chain(100, 0), chain(100, 0), same}, {chain(100, 0), rising, same}, {rising, chain(163, 0), same},
		{rising, chain(99, 0), nil}, {rising, chain(100, 0), [][2]int{{0, 0}}}, {chain(101, 0), falling, same[:63]},
	} {
		g := graphOf(x.l, x.m, 0)
		if want := g.first(64); !slices.Equal(want, x.want) {
			t.Error("the tests disagree", want, x.want)
		}
		checkPairs(t, x.l, x.m, 0, g, x.want)
	}
}

// P6.6: the chapter's example.
func TestPairsExample(t *testing.T) {
	l := []api.Sighting{seen(100, headOf(0, 1, 0, whole))}
	m := []api.Sighting{seen(460, headOf(0, 2, 0, whole)), seen(460, headOf(0, 4, 0, whole))}
	checkPairs(t, l, m, 0, graph{{true, false}}, [][2]int{{0, 0}})
	if n, err := sheets.New(l, m, 0); n != 1 || err != api.OK {
		t.Error(n, err)
	}
}

// checkPairsError checks that all functions return an error, and zero results besides.
func checkPairsError(t *testing.T, l, m []api.Sighting, k int, want api.Errno) {
	t.Helper()
	if got, err := sheets.Pairing(l, m, k); len(got) != 0 || err != want {
		t.Error(len(l), len(m), k, got, err, want)
	}
	if first, second, err := sheets.Cover(l, m, k); len(first) != 0 || len(second) != 0 || err != want {
		t.Error(len(l), len(m), k, first, second, err, want)
	}
	if n, err := sheets.New(l, m, k); n != 0 || err != want {
		t.Error(len(l), len(m), k, n, err, want)
	}
}

// P6.6: the errors, in their order.
func TestPairsErrors(t *testing.T) {
	good := slices.Repeat([]api.Sighting{seen(5, headOf(0, 0, 0, whole))}, 70)
	day, paint := bad{seen(-1, headOf(0, 0, 0, whole)), api.ErrArg}, bad{seen(0, headOf(0, 0, 64, whole)), api.ErrHead}
	for _, x := range badSightings() {
		for _, k := range []int{0, 5} {
			checkPairsError(t, []api.Sighting{x.x}, nil, k, x.want)
			checkPairsError(t, nil, []api.Sighting{x.x}, k, x.want)
			checkPairsError(t, append(good[:5:5], x.x), good[:5], k, x.want)
			checkPairsError(t, good[:5], append(good[:5:5], x.x), k, x.want)
			checkPairsError(t, append(good[:65:65], x.x), good, k, x.want)
			checkPairsError(t, good, append(good[:65:65], x.x), k, x.want)
			for _, y := range []bad{day, paint} {
				checkPairsError(t, []api.Sighting{good[0], x.x, y.x}, []api.Sighting{y.x}, k, x.want)
				checkPairsError(t, []api.Sighting{x.x}, []api.Sighting{y.x}, k, x.want)
			}
		}
	}
	for _, k := range []int{least, -1, 5, most} {
		for _, l := range [][]api.Sighting{nil, good[:1], good[:64], good} {
			checkPairsError(t, l, good[:3], k, api.ErrArg)
			checkPairsError(t, good[:3], l, k, api.ErrArg)
		}
	}
	for _, l := range [][]api.Sighting{good[:65], good} {
		for _, m := range [][]api.Sighting{nil, good[:64], good} {
			checkPairsError(t, l, m, 2, api.ErrLimit)
			checkPairsError(t, m, l, 2, api.ErrLimit)
		}
	}
}
