package fell_test

import (
	"cmp"
	"slices"
	"testing"

	"earmark/api"
	"earmark/fell"
)

// checkLanes checks that each lane leads from a to b, and that no gate is in two of them, or twice in one.
func checkLanes(t *testing.T, f api.Fell, a, b int, lanes [][]int) {
	t.Helper()
	used := map[int]bool{}
	for _, l := range lanes {
		at := a
		for _, i := range l {
			if i < 0 || i >= len(f.Gates) || used[i] {
				t.Fatal(f, a, b, lanes)
			}
			used[i] = true
			g := f.Gates[i]
			if g.From == g.To || g.A != at && g.B != at {
				t.Fatal(f, a, b, lanes)
			}
			at = g.A + g.B - at
		}
		if at != b || len(l) == 0 {
			t.Fatal(f, a, b, lanes)
		}
	}
}

// leastShut tries all sets of usable gates, the smaller ones first, those of one size in their order.
func leastShut(r *tables, a, b int) []int {
	var usable []int
	for i, g := range r.f.Gates {
		if g.From != g.To {
			usable = append(usable, i)
		}
	}
	var sets [][]int
	for bits := range 1 << len(usable) {
		var l []int
		for n, i := range usable {
			if bits>>n&1 == 1 {
				l = append(l, i)
			}
		}
		sets = append(sets, l)
	}
	slices.SortFunc(sets, func(x, y []int) int { return cmp.Or(cmp.Compare(len(x), len(y)), slices.Compare(x, y)) })
	return sets[slices.IndexFunc(sets, func(l []int) bool { return !r.folds(l)[a][b] })]
}

// P4.3 and P4.5: against all sets of gates.
func TestShutAndLanes(t *testing.T) {
	found := map[int]int{}
	for _, f := range smallFells() {
		r := tablesOf(f)
		for a := range f.Grazings {
			b := (a + 1 + a%2) % f.Grazings
			if a == b || len(f.Gates) > 8 && a > 1 {
				continue
			}
			want := leastShut(r, a, b)
			found[len(want)]++
			for _, x := range [][2]int{{a, b}, {b, a}} {
				if got, err := fell.Shut(f, x[0], x[1]); !slices.Equal(got, want) || err != api.OK {
					t.Fatal(f, x, got, err, want)
				}
				lanes, err := fell.Lanes(f, x[0], x[1])
				if len(lanes) != len(want) || err != api.OK {
					t.Fatal(f, x, lanes, err, want)
				}
				checkLanes(t, f, x[0], x[1], lanes)
			}
		}
	}
	if found[0] < 20 || found[1] < 20 || found[2] < 20 || found[3] < 5 {
		t.Error(found)
	}
}

// P4.5: on fells of all sizes. Lanes prove that no fewer gates are enough, and Shut that there are no more lanes.
func TestAsManyLanesAsGatesToShut(t *testing.T) {
	counts := map[int]int{}
	for _, f := range someFells() {
		kept := clone(f)
		for a := range f.Grazings {
			for b := range f.Grazings {
				if a == b {
					continue
				}
				lanes, err := fell.Lanes(f, a, b)
				l, err2 := fell.Shut(f, a, b)
				if len(lanes) != len(l) || err != api.OK || err2 != api.OK {
					t.Fatal(f, a, b, lanes, l, err, err2)
				}
				counts[len(l)]++
				checkLanes(t, f, a, b, lanes)
				checkShut(t, f, a, b, l)
			}
		}
		if !sameFell(f, kept) {
			t.Fatal("an argument has been changed")
		}
	}
	if counts[0] < 100 || counts[1] < 100 || counts[2] < 100 || counts[5] < 10 || counts[25] < 2 {
		t.Error(counts)
	}
}

// checkShut checks that usable gates separate a and b, and that none of them may be left out.
func checkShut(t *testing.T, f api.Fell, a, b int, l []int) {
	t.Helper()
	for n, i := range l {
		if f.Gates[i].From == f.Gates[i].To || n > 0 && i <= l[n-1] {
			t.Fatal(f, a, b, l)
		}
	}
	if shut, _ := fell.Without(f, l); inFold(shut, a, b) {
		t.Fatal(f, a, b, l)
	}
	for n := range l {
		if ajar, _ := fell.Without(f, slices.Delete(slices.Clone(l), n, n+1)); !inFold(ajar, a, b) {
			t.Fatal(f, a, b, l, n)
		}
	}
}

func inFold(f api.Fell, a, b int) bool {
	l, _ := fell.Ever(f, a)
	return slices.Contains(l, b)
}

// P4.3, examples; and lanes that exchange gates with others that were found before.
func TestLanesExamples(t *testing.T) {
	crossed := api.Fell{Grazings: 6}
	for _, g := range [][2]int{{0, 1}, {1, 2}, {2, 5}, {0, 3}, {2, 3}, {1, 4}, {4, 5}} {
		crossed.Gates = append(crossed.Gates, api.Gate{A: g[0], B: g[1], To: 1})
	}
	for _, x := range []struct {
		f    api.Fell
		a, b int
		want []int
	}{
		{exampleFell(), 0, 2, []int{0}},
		{exampleFell(), 2, 0, []int{0}},
		{exampleFell(), 1, 2, []int{1, 2}},
		{exampleFell(), 2, 3, nil},
		{exampleFell(), 3, 0, nil},
		{crossed, 0, 5, []int{0, 3}},
		{crossed, 5, 0, []int{0, 3}},
		{crossed, 1, 2, []int{0, 1, 2}},
		{ring(5), 4, 1, []int{0, 2}},
		{ring(5), 2, 3, []int{0, 3}},
	} {
		if got, err := fell.Shut(x.f, x.a, x.b); !slices.Equal(got, x.want) || err != api.OK {
			t.Error(x, got, err)
		}
		lanes, err := fell.Lanes(x.f, x.a, x.b)
		if len(lanes) != len(x.want) || err != api.OK {
			t.Error(x, lanes, err)
		}
		checkLanes(t, x.f, x.a, x.b, lanes)
	}
}
