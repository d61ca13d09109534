package knife_test

import (
	"slices"
	"testing"

	"earmark/api"
	"earmark/knife"
)

// P3.1 to P3.6: an ear that is not valid comes before every other error; with an error every other result is zero.
func TestInvalidEars(t *testing.T) {
	good := words("slit, hole 1")
	for i, bad := range badEars() {
		if l, err := knife.Cuts(bad); len(l) != 0 || err != api.ErrEar {
			t.Error(i, "Cuts", l, err)
		}
		for _, c := range []api.Cut{cutOf("cut tip slit"), cutOf("punch 0"), {}, {Kind: 99}} {
			if e, err := knife.Apply(bad, c); e != (api.Ear{}) || err != api.ErrEar {
				t.Error(i, "Apply", e, err)
			}
			if e, n, err := knife.ApplyAll(bad, []api.Cut{cutOf("punch 0"), c}); e != (api.Ear{}) || n != 0 || err != api.ErrEar {
				t.Error(i, "ApplyAll", e, n, err)
			}
		}
		if e, n, err := knife.ApplyAll(bad, nil); e != (api.Ear{}) || n != 0 || err != api.ErrEar {
			t.Error(i, "ApplyAll", e, n, err)
		}
		for _, n := range []int{0, 3, -1, 4} {
			if l, err := knife.Over(bad, n); len(l) != 0 || err != api.ErrEar {
				t.Error(i, "Over", l, err)
			}
		}
		for _, b := range []api.Budget{budget(1, 1), budget(-1, 0), budget(2, 2)} {
			if l, err := knife.Costs(bad, b); len(l) != 0 || err != api.ErrEar {
				t.Error(i, "Costs", l, err)
			}
		}
		for _, p := range [][2]api.Ear{{bad, good}, {good, bad}, {bad, bad}, {bad, words("whole")}} {
			if ok, err := knife.Can(p[0], p[1]); ok || err != api.ErrEar {
				t.Error(i, "Can", ok, err)
			}
			if n, ok, err := knife.Least(p[0], p[1]); n != 0 || ok || err != api.ErrEar {
				t.Error(i, "Least", n, ok, err)
			}
			if l, ok, err := knife.Plan(p[0], p[1]); len(l) != 0 || ok || err != api.ErrEar {
				t.Error(i, "Plan", l, ok, err)
			}
		}
	}
}

// P3.2 and P3.3
func TestInvalidCountsAndBudgets(t *testing.T) {
	for _, e := range rich() {
		for _, n := range badCounts {
			if l, err := knife.Over(e, n); len(l) != 0 || err != api.ErrArg {
				t.Error(e, n, l, err)
			}
			for _, l := range [][]api.Mark{nil, someMarks()} {
				if got, err := knife.Victims(api.Mark{Near: e}, l, n); len(got) != 0 || err != api.ErrArg {
					t.Error(e, n, got, err)
				}
			}
		}
		for _, b := range badBudgets() {
			if l, err := knife.Costs(e, b); len(l) != 0 || err != api.ErrBudget {
				t.Error(e, b, l, err)
			}
		}
	}
}

// P3.2 and P3.4
func TestInvalidMarks(t *testing.T) {
	good := someMarks()[4]
	for i, bad := range badMarks() {
		for _, c := range append(near("heal", "punch 1"), api.Change{}, api.Change{Knife: true, Cut: api.Cut{Kind: 9}}) {
			if m, err := knife.Step(bad, c); m != (api.Mark{}) || err != api.ErrEar {
				t.Error(i, "Step", m, err)
			}
			if m, n, err := knife.StepAll(bad, append(far("punch 0"), c)); m != (api.Mark{}) || n != 0 || err != api.ErrEar {
				t.Error(i, "StepAll", m, n, err)
			}
		}
		if m, n, err := knife.StepAll(bad, nil); m != (api.Mark{}) || n != 0 || err != api.ErrEar {
			t.Error(i, "StepAll", m, n, err)
		}
		for _, n := range []int{0, 2, -1, 4} {
			for _, l := range [][]api.Mark{nil, {good}, {bad}} {
				if got, err := knife.Victims(bad, l, n); len(got) != 0 || err != api.ErrEar {
					t.Error(i, "Victims", got, err)
				}
			}
			if got, err := knife.Victims(good, []api.Mark{good, good, bad}, n); len(got) != 0 || err != api.ErrEar {
				t.Error(i, "Victims", got, err)
			}
		}
		for _, p := range [][2]api.Mark{{bad, good}, {good, bad}, {bad, bad}} {
			if l, ok, err := knife.PlanMark(p[0], p[1]); len(l) != 0 || ok || err != api.ErrEar {
				t.Error(i, "PlanMark", l, ok, err)
			}
			for _, b := range append(budgets(), badBudgets()...) {
				checkInvalidPair(t, p[0], p[1], b, api.ErrEar)
			}
		}
	}
	for _, b := range badBudgets() {
		checkInvalidPair(t, good, good, b, api.ErrBudget)
		checkInvalidPair(t, someMarks()[1], someMarks()[0], b, api.ErrBudget)
	}
}

// checkInvalidPair checks that the functions of two marks and a budget return an error, and nothing else.
func checkInvalidPair(t *testing.T, m, n api.Mark, b api.Budget, want api.Errno) {
	t.Helper()
	if ok, err := knife.Looks(m, n, b); ok || err != want {
		t.Error("Looks", m, n, b, ok, err)
	}
	if l, ok, err := knife.Way(m, n, b); len(l) != 0 || ok || err != want {
		t.Error("Way", m, n, b, l, ok, err)
	}
	for _, l := range [][]api.Change{nil, near("heal"), {{Knife: true}}} {
		if err := knife.CheckWay(m, n, b, l); err != want {
			t.Error("CheckWay", m, n, b, l, err)
		}
	}
	if x, ok, err := knife.Clash(m, n, b); x != (api.Mark{}) || ok || err != want {
		t.Error("Clash", m, n, b, x, ok, err)
	}
	if apart, err := knife.Apart(m, n, b); apart || err != want {
		t.Error("Apart", m, n, b, apart, err)
	}
}

// P3.6: the errors in their order: the ears of all marks, the budget, the number of cuts, the number of marks.
func TestInvalidOvermarks(t *testing.T) {
	good, many := someMarks()[4], slices.Repeat(someMarks()[:1], 17)
	for _, bad := range badMarks() {
		for _, b := range []api.Budget{budget(1, 1), budget(2, 2)} {
			for _, most := range []int{0, 2, -1, 3} {
				checkInvalidOvermark(t, bad, nil, b, most, api.ErrEar)
				checkInvalidOvermark(t, bad, many, b, most, api.ErrEar)
				checkInvalidOvermark(t, good, []api.Mark{good, bad}, b, most, api.ErrEar)
				checkInvalidOvermark(t, good, append(slices.Clone(many), bad), b, most, api.ErrEar)
			}
		}
	}
	for _, b := range badBudgets() {
		checkInvalidOvermark(t, good, nil, b, 1, api.ErrBudget)
		checkInvalidOvermark(t, good, many, b, 1, api.ErrBudget)
		checkInvalidOvermark(t, good, nil, b, 3, api.ErrBudget)
	}
	for _, most := range []int{-1 << 63, -1, 3, 4, 1 << 32, 1<<63 - 1} {
		checkInvalidOvermark(t, good, nil, budget(1, 1), most, api.ErrArg)
		checkInvalidOvermark(t, good, many, budget(1, 1), most, api.ErrArg)
	}
	for most := range 3 {
		checkInvalidOvermark(t, good, many, budget(0, 0), most, api.ErrLimit)
		checkInvalidOvermark(t, good, slices.Repeat(many, 9), budget(1, 1), most, api.ErrLimit)
		if x, l, ok, err := knife.Overmark(good, many[:16], budget(0, 0), most); x != good || len(l) != 0 || !ok || err != api.OK {
			t.Error(x, l, ok, err)
		}
	}
}

func checkInvalidOvermark(t *testing.T, m api.Mark, keep []api.Mark, b api.Budget, most int, want api.Errno) {
	t.Helper()
	if x, l, ok, err := knife.Overmark(m, keep, b, most); x != (api.Mark{}) || len(l) != 0 || ok || err != want {
		t.Error(m, len(keep), b, most, x, l, ok, err)
	}
}

// R2: each result is new memory.
func TestResultsAreNewMemory(t *testing.T) {
	m := someMarks()[4]
	seen := markOf("near: upper bit 1, hole 1; far: slit")
	checkNew(t, func() []api.Cut { l, _ := knife.Cuts(m.Near); return l })
	checkNew(t, func() []api.Ear { l, _ := knife.Over(m.Near, 2); return l })
	checkNew(t, func() []api.Cost { l, _ := knife.Costs(m.Near, budget(1, 1)); return l })
	checkNew(t, func() []api.Cut { l, _, _ := knife.Plan(words("whole"), rich()[3]); return l })
	checkNew(t, func() []api.Change {
		l, _, _ := knife.PlanMark(api.Mark{}, api.Mark{Near: rich()[3], Far: rich()[4]})
		return l
	})
	checkNew(t, func() []int { l, _ := knife.Victims(m, []api.Mark{m, seen, m}, 1); return l })
	checkNew(t, func() []api.Change { l, _, _ := knife.Way(m, seen, budget(2, 0)); return l })
	checkNew(t, func() []api.Change {
		_, l, _, _ := knife.Overmark(m, []api.Mark{m}, budget(0, 1), 2)
		return l
	})
}

// checkNew checks that what get returns has elements, and is not kept.
func checkNew[T comparable](t *testing.T, get func() []T) {
	t.Helper()
	l := get()
	want := slices.Clone(l)
	clear(l)
	if len(l) == 0 || !slices.Equal(get(), want) {
		t.Error(l, want)
	}
}
