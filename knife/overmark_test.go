package knife_test

import (
	"maps"
	"slices"
	"testing"

	"earmark/api"
	"earmark/ear"
	"earmark/knife"
)

// P3.6: by all marks that are cut out of a mark, in the order of what they need.
func TestOvermark(t *testing.T) {
	found := map[int]int{}
	for _, b := range []api.Budget{budget(0, 0), budget(1, 0), budget(0, 1), budget(2, 0), budget(1, 1)} {
		for i, m := range someMarks() {
			keep := append(slices.Clone(someMarks()[i:]), m)
			if i%2 == 1 {
				keep = someMarks()[:i]
			}
			checkOvermark(t, m, keep, b, found)
		}
	}
	checkOvermark(t, someMarks()[7], someMarks(), budget(0, 2), found)
	checkOvermark(t, someMarks()[8], someMarks()[:8], budget(0, 2), found)
	if found[0] < 5 || found[1] < 5 || found[2] < 5 || found[-1] < 5 {
		t.Error(found)
	}
}

// checkOvermark checks what Overmark returns for each number of cuts, and counts which one was needed (-1 if none is enough).
func checkOvermark(t *testing.T, m api.Mark, keep []api.Mark, b api.Budget, found map[int]int) {
	t.Helper()
	var sets []map[pair]bool
	for _, k := range keep {
		sets = append(sets, looks(k, b))
	}
	kept := slices.Clone(keep)
	for most := range 3 {
		want, needs := leastApart(m, sets, b, most)
		got, l, ok, err := knife.Overmark(m, keep, b, most)
		if got != want || ok != (needs >= 0) || err != api.OK {
			t.Fatal(m, keep, b, most, got, ok, err, want)
		}
		found[needs]++
		if !slices.Equal(keep, kept) {
			t.Fatal("an argument has been changed")
		}
		if !ok {
			if len(l) != 0 {
				t.Fatal(l)
			}
			continue
		}
		plan, _, _ := knife.PlanMark(m, got)
		if !slices.Equal(l, plan) || len(l) != needs {
			t.Fatal(m, got, l, plan)
		}
		for _, k := range keep {
			if apart, _ := knife.Apart(got, k, b); !apart {
				t.Fatal(got, k, b)
			}
		}
	}
}

// leastApart returns the least mark among those that need the fewest cuts of m, at most most, and can come to look like nothing in any of sets, and how many cuts it needs: -1 if there is none.
func leastApart(m api.Mark, sets []map[pair]bool, b api.Budget, most int) (api.Mark, int) {
	nears, fars := cutsFrom(codeOf(m.Near), most), cutsFrom(codeOf(m.Far), most)
	for n := range most + 1 {
		var l []pair
		for x, i := range nears {
			for y, j := range fars {
				if i+j == n {
					l = append(l, pair{x, y})
				}
			}
		}
		slices.SortFunc(l, comparePairs)
		for _, p := range l {
			if own := looks(p.mark(), b); !slices.ContainsFunc(sets, func(set map[pair]bool) bool { _, ok := leastOf(own, set); return ok }) {
				return p.mark(), n
			}
		}
	}
	return api.Mark{}, -1
}

// P3.6, examples
func TestOvermarkExamples(t *testing.T) {
	m := markOf("near: slit; far: hole 1")
	for _, b := range budgets() {
		for most := range 3 {
			for _, none := range [][]api.Mark{nil, {}} {
				if got, l, ok, err := knife.Overmark(m, none, b, most); got != m || len(l) != 0 || !ok || err != api.OK {
					t.Error(b, most, got, l, ok, err)
				}
			}
		}
	}
	whole := api.Mark{}
	if got, l, ok, err := knife.Overmark(whole, []api.Mark{whole}, budget(0, 0), 1); got != markOf("near: whole; far: hole 2") || !slices.Equal(l, far("punch 2")) || !ok || err != api.OK {
		t.Error(got, l, ok, err)
	}
	// Holes and slits are gone after a step, a notch as well, a crop comes to the same; a bit remains.
	if got, l, ok, err := knife.Overmark(whole, []api.Mark{whole}, budget(1, 0), 1); got != markOf("near: whole; far: lower bit 2") || !slices.Equal(l, far("cut lower 2 bit")) || !ok || err != api.OK {
		t.Error(got, l, ok, err)
	}
	if got, l, ok, err := knife.Overmark(whole, []api.Mark{whole}, budget(0, 1), 1); got != (api.Mark{}) || len(l) != 0 || ok || err != api.OK {
		t.Error(got, l, ok, err)
	}
	if got, l, ok, err := knife.Overmark(whole, []api.Mark{whole, whole, whole}, budget(0, 1), 2); got != markOf("near: whole; far: hole 1, hole 2") || !slices.Equal(l, far("punch 1", "punch 2")) || !ok || err != api.OK {
		t.Error(got, l, ok, err)
	}
	if got, l, ok, err := knife.Overmark(whole, []api.Mark{whole}, budget(0, 1), 0); got != (api.Mark{}) || len(l) != 0 || ok || err != api.OK {
		t.Error(got, l, ok, err)
	}
}

// P3.6: with 16 marks to keep and the largest budgets.
func TestOvermarkOfManyMarks(t *testing.T) {
	for i, m := range someMarks() {
		keep := []api.Mark{}
		for p := range maps.Keys(looks(m, budget(0, 1))) {
			keep = append(keep, p.mark())
		}
		slices.SortFunc(keep, ear.CompareMarks)
		keep = keep[:16]
		for _, b := range []api.Budget{budget(3, 0), budget(2, 1), budget(1, 2), budget(0, 3)} {
			x, l, ok, err := knife.Overmark(m, keep, b, 2)
			if err != api.OK || ok && len(l) > 2 {
				t.Fatal(i, b, x, l, ok, err)
			}
			for _, k := range keep {
				if apart, _ := knife.Apart(x, k, b); ok && !apart {
					t.Fatal(i, b, x, k)
				}
			}
		}
	}
}
