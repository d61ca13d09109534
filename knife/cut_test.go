package knife_test

import (
	"slices"
	"testing"

	"earmark/api"
	"earmark/ear"
	"earmark/knife"
)

// P3.1
func TestCheck(t *testing.T) {
	for _, c := range cuts {
		if err := knife.Check(c); err != api.OK {
			t.Error(c, err)
		}
	}
	for _, c := range badCuts() {
		if err := knife.Check(c); err != api.ErrCut {
			t.Error(c, err)
		}
	}
	if err := knife.Check(api.Cut{Kind: api.EdgeC, At: 3}); err != api.ErrCut {
		t.Error(err)
	}
}

// P3.1
func TestCheckBudget(t *testing.T) {
	for _, b := range budgets() {
		if err := knife.CheckBudget(b); err != api.OK {
			t.Error(b, err)
		}
	}
	for _, b := range badBudgets() {
		if err := knife.CheckBudget(b); err != api.ErrBudget {
			t.Error(b, err)
		}
	}
}

// P3.1: all cuts of all ears; what they make is valid, and another ear.
func TestCutsAndApply(t *testing.T) {
	w := all()
	for n, e := range w.ears {
		var want []api.Cut
		for i, c := range cuts {
			made, err := knife.Apply(e, c)
			if x := w.made[n][i]; x >= 0 {
				want = append(want, c)
				if made != w.ears[x] || err != api.OK || made == e || ear.Check(made) != api.OK {
					t.Fatal(e, c, made, err)
				}
			} else if made != (api.Ear{}) || err != api.ErrCut {
				t.Fatal(e, c, made, err)
			}
		}
		if got, err := knife.Cuts(e); !slices.Equal(got, want) || err != api.OK {
			t.Fatal(e, got, err)
		}
	}
}

// P3.1, examples: 4 cuts of the tip, 24 of the edges and 3 punches.
func TestCutsOfTheWholeEar(t *testing.T) {
	l, err := knife.Cuts(words("whole"))
	if !slices.Equal(l, cuts[:31]) || err != api.OK {
		t.Error(l, err)
	}
}

// P3.1
func TestApplyOfBadCuts(t *testing.T) {
	for _, e := range rich() {
		for _, c := range badCuts() {
			if made, err := knife.Apply(e, c); made != (api.Ear{}) || err != api.ErrCut {
				t.Fatal(e, c, made, err)
			}
		}
	}
}

// P3.1, examples and edges of the table
func TestApplyExamples(t *testing.T) {
	for _, x := range []struct{ ear, cut, want string }{
		{"whole", "cut tip forked", "forked"},
		{"forked", "cut tip slit", ""},
		{"forked", "cut tip forked", ""},
		{"forked, upper bit 3, lower notch 3, lower key 0", "cut tip hollowed", "hollowed, lower key 0"},
		{"upper bit 3", "cut tip cropped", "cropped"},
		{"upper bit 3", "cut tip forked", "forked, upper bit 3"},
		{"hollowed, hole 2", "cut tip cropped", "cropped, hole 2"},
		{"upper notch 0, upper bit 2", "cut upper 1 notch", ""},
		{"upper notch 0, upper bit 2", "cut upper 3 key", ""},
		{"upper notch 0, upper bit 2", "cut upper 2 key", "upper notch 0, upper key 2"},
		{"upper notch 0, upper bit 2", "cut upper 2 bit", ""},
		{"upper notch 0, upper bit 2", "cut upper 2 notch", ""},
		{"upper notch 0, upper bit 2", "cut lower 1 notch", "upper notch 0, upper bit 2, lower notch 1"},
		{"forked", "cut lower 3 key", "forked, lower key 3"},
		{"hollowed", "cut lower 3 key", ""},
		{"cropped", "cut upper 3 notch", ""},
		{"cropped", "cut upper 2 notch", "cropped, upper notch 2"},
		{"forked, lower notch 3", "cut lower 3 bit", "forked, lower bit 3"},
		{"upper key 0", "punch 0", ""},
		{"lower key 2", "punch 2", ""},
		{"upper bit 2, lower notch 2", "punch 2", "upper bit 2, lower notch 2, hole 2"},
		{"upper key 3", "punch 2", "upper key 3, hole 2"},
		{"hole 1", "punch 1", ""},
		{"hole 1", "open upper 1", "upper bit 1"},
		{"hole 1", "open lower 1", "lower bit 1"},
		{"hole 1, lower notch 1", "open lower 1", "lower key 1"},
		{"hole 1, lower bit 1", "open lower 1", "lower key 1"},
		{"hole 1, lower key 1", "open lower 1", "lower key 1"},
		{"hole 1, lower key 1", "open upper 1", "upper bit 1, lower key 1"},
		{"hole 1, upper notch 0", "open upper 1", ""},
		{"hole 1, upper notch 2", "open upper 1", ""},
		{"hole 2, upper notch 3", "open upper 2", ""},
		{"hole 2, upper notch 3", "open lower 2", "upper notch 3, lower bit 2"},
		{"hole 1", "open upper 0", ""},
	} {
		made, err := knife.Apply(words(x.ear), cutOf(x.cut))
		if x.want == "" {
			if made != (api.Ear{}) || err != api.ErrCut {
				t.Error(x, made, err)
			}
		} else if made != words(x.want) || err != api.OK {
			t.Error(x, made, err)
		}
	}
}

// P3.1: after each cut the next one is tried on what the former ones have made.
func TestApplyAll(t *testing.T) {
	w := all()
	for _, e := range append(rich(), every(5003)...) {
		for seed := range 60 {
			at, want := codeOf(e), 0
			var l []api.Cut
			for i := range 4 {
				c := (seed*7 + i*i*11 + seed*i) % len(cuts)
				l = append(l, cuts[c])
				if at >= 0 {
					at = w.made[at][c]
				}
				if at >= 0 {
					want++
				}
			}
			kept := slices.Clone(l)
			got, n, err := knife.ApplyAll(e, l)
			if at >= 0 && (got != w.ears[at] || n != 0 || err != api.OK) || at < 0 && (got != (api.Ear{}) || n != want || err != api.ErrCut) {
				t.Fatal(e, l, got, n, err)
			}
			if !slices.Equal(l, kept) {
				t.Fatal("an argument has been changed")
			}
		}
	}
}

// P3.1
func TestApplyAllAlongPlans(t *testing.T) {
	e := words("slit, upper notch 3, hole 1")
	plan := []api.Cut{cutOf("open upper 1"), cutOf("punch 1"), cutOf("cut tip cropped"), cutOf("cut lower 2 notch"), cutOf("cut lower 2 key")}
	if got, n, err := knife.ApplyAll(e, plan); got != words("cropped, upper bit 1, lower key 2, hole 1") || n != 0 || err != api.OK {
		t.Error(got, n, err)
	}
	for i := range plan {
		for _, bad := range []api.Cut{{}, {Kind: 3, At: 3}, {Kind: 5}, cutOf("cut tip slit"), cutOf("open lower 0")} {
			l := slices.Clone(plan)
			l[i] = bad
			if got, n, err := knife.ApplyAll(e, l); got != (api.Ear{}) || n != i || err != api.ErrCut {
				t.Error(i, bad, got, n, err)
			}
		}
	}
	for _, l := range [][]api.Cut{nil, {}} {
		if got, n, err := knife.ApplyAll(e, l); got != e || n != 0 || err != api.OK {
			t.Error(got, n, err)
		}
	}
}

// P3.1: if ears of which no cut makes more are taken away again and again, none is left; so no cuts lead back.
func TestNoCutsLeadBack(t *testing.T) {
	w := all()
	onwards := make([]int, len(w.ears))
	before := make([][]int, len(w.ears))
	var ends []int
	for n, e := range w.ears {
		l, _ := knife.Cuts(e)
		for _, c := range l {
			x, _ := knife.Apply(e, c)
			before[codeOf(x)] = append(before[codeOf(x)], n)
		}
		onwards[n] = len(l)
		if len(l) == 0 {
			ends = append(ends, n)
		}
	}
	for i := 0; i < len(ends); i++ {
		for _, n := range before[ends[i]] {
			onwards[n]--
			if onwards[n] == 0 {
				ends = append(ends, n)
			}
		}
	}
	if len(ends) != len(w.ears) {
		t.Error(len(ends))
	}
}
