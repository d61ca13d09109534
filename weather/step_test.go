package weather_test

import (
	"slices"
	"testing"

	"earmark/api"
	"earmark/ear"
	"earmark/weather"
)

// P2.1
func TestCheck(t *testing.T) {
	for i, s := range steps {
		if err := weather.Check(s); err != api.OK {
			t.Error(notations[i], err)
		}
	}
	for _, s := range badSteps() {
		if err := weather.Check(s); err != api.ErrStep {
			t.Error(s, err)
		}
	}
}

// P2.1: all steps and all ears.
func TestStepsAndApply(t *testing.T) {
	w := all()
	for n, e := range w.ears {
		var want []api.Step
		for i, s := range steps {
			got, err := weather.Apply(e, s)
			if x := w.made[n][i]; x < 0 {
				if got != (api.Ear{}) || err != api.ErrStep {
					t.Fatal(e, notations[i], got, err)
				}
				continue
			} else if got != w.ears[x] || err != api.OK {
				t.Fatal(e, notations[i], got, err)
			}
			want = append(want, s)
		}
		if got, err := weather.Steps(e); !slices.Equal(got, want) || err != api.OK {
			t.Fatal(e, got, err)
		}
	}
}

// P2.1
func TestApplyWithoutWellFormedSteps(t *testing.T) {
	for _, e := range rich() {
		for _, s := range badSteps() {
			if got, err := weather.Apply(e, s); got != (api.Ear{}) || err != api.ErrStep {
				t.Error(e, s, got, err)
			}
			if got, n, err := weather.ApplyAll(e, []api.Step{s, stepOf("frost")}); got != (api.Ear{}) || n != 0 || err != api.ErrStep {
				t.Error(e, s, got, n, err)
			}
		}
	}
}

// P2.1, examples
func TestStepExamples(t *testing.T) {
	e := words("upper notch 1, hole 1")
	var got []string
	l, err := weather.Steps(e)
	for _, s := range l {
		text, _ := weather.Print(s)
		got = append(got, text)
	}
	if !slices.Equal(got, []string{"frost", "tear upper 1", "tear lower 1", "close 1", "shut upper 1", "wear upper 1"}) || err != api.OK {
		t.Error(got, err)
	}
	for _, c := range []struct {
		e, step, want string
	}{
		{"upper notch 1, hole 1", "tear upper 1", "upper key 1"},
		{"upper notch 1, hole 1", "tear lower 1", "upper notch 1, lower bit 1"},
		{"upper notch 0, upper bit 2", "run upper 0", "upper key 1"},
		{"lower key 1, lower key 3, hole 2", "run lower 1", "lower key 2, hole 2"},
		{"forked, upper key 3, lower notch 3, upper bit 1, hole 0", "frost", "cropped, upper bit 1, hole 0"},
		{"slit, upper key 0, hole 0", "tear upper 0", "slit, upper key 0"},
		{"slit, upper key 0, hole 0", "close 0", "slit, upper key 0"},
		{"slit, lower bit 2, hole 2", "tear lower 2", "slit, lower key 2"},
		{"slit, lower bit 2", "heal", "lower bit 2"},
		{"lower notch 3", "shut lower 3", "whole"},
		{"lower notch 3", "wear lower 3", "lower bit 3"},
	} {
		if got, err := weather.Apply(words(c.e), stepOf(c.step)); got != words(c.want) || err != api.OK {
			t.Error(c, got, err)
		}
	}
	for _, c := range [][2]string{
		{"upper notch 1, hole 1", "heal"},
		{"upper notch 1, hole 1", "tear upper 0"},
		{"upper notch 3, hole 2", "tear upper 2"},
		{"upper notch 0, hole 1", "tear upper 1"},
		{"cropped", "frost"},
		{"upper notch 0, lower notch 2", "run upper 0"},
		{"upper bit 0", "shut upper 0"},
		{"upper key 0", "wear upper 0"},
		{"hole 0", "close 1"},
	} {
		if got, err := weather.Apply(words(c[0]), stepOf(c[1])); got != (api.Ear{}) || err != api.ErrStep {
			t.Error(c, got, err)
		}
	}
}

// P2.1: after each step the next one is tried on what the former ones have made.
func TestApplyAll(t *testing.T) {
	w := all()
	for _, e := range append(rich(), every(5003)...) {
		for seed := range 40 {
			at, want := codeOf(e), 0
			var l []api.Step
			for i := range 6 {
				s := (seed*7 + i*i*11 + seed*i) % len(steps)
				l = append(l, steps[s])
				if at >= 0 {
					at = w.made[at][s]
				}
				if at >= 0 {
					want++
				}
			}
			kept := slices.Clone(l)
			got, n, err := weather.ApplyAll(e, l)
			if at >= 0 && (got != w.ears[at] || n != 6 || err != api.OK) || at < 0 && (got != (api.Ear{}) || n != want || err != api.ErrStep) {
				t.Fatal(e, l, got, n, err)
			}
			if !slices.Equal(l, kept) {
				t.Fatal("an argument has been changed")
			}
		}
	}
}

// P2.1
func TestApplyAllAlongWays(t *testing.T) {
	e := words("slit, upper notch 0, upper notch 2, hole 1")
	way := []api.Step{stepOf("heal"), stepOf("wear upper 0"), stepOf("run upper 0"), stepOf("tear upper 1"), stepOf("frost")}
	if got, n, err := weather.ApplyAll(e, way); got != words("cropped, upper key 1") || n != 5 || err != api.OK {
		t.Error(got, n, err)
	}
	for i := range way {
		for _, bad := range []api.Step{{}, {Kind: 3, At: 2}, stepOf("close 0"), stepOf("shut lower 3")} {
			l := slices.Clone(way)
			l[i] = bad
			if got, n, err := weather.ApplyAll(e, l); got != (api.Ear{}) || n != i || err != api.ErrStep {
				t.Error(i, bad, got, n, err)
			}
		}
	}
	for _, l := range [][]api.Step{nil, {}} {
		if got, n, err := weather.ApplyAll(e, l); got != e || n != 0 || err != api.OK {
			t.Error(got, n, err)
		}
	}
	if got, n, err := weather.ApplyAll(e, []api.Step{way[0], way[0]}); got != (api.Ear{}) || n != 1 || err != api.ErrStep {
		t.Error(got, n, err)
	}
}

// P2.2: all ears.
func TestNextBeforeAndStable(t *testing.T) {
	w := all()
	for n, e := range w.ears {
		if got, err := weather.Next(e); !sameEars(got, w.next[n]) || err != api.OK {
			t.Fatal(e, got, err)
		}
		if got, err := weather.Before(e); !sameEars(got, w.before[n]) || err != api.OK {
			t.Fatal(e, got, err)
		}
		if got, err := weather.Stable(e); got != (len(w.next[n]) == 0) || err != api.OK {
			t.Fatal(e, got, err)
		}
	}
}

func sameEars(l []api.Ear, codes []int) bool {
	if len(l) != len(codes) {
		return false
	}
	for i, n := range codes {
		if l[i] != all().ears[n] {
			return false
		}
	}
	return true
}

// P2.2, examples
func TestBeforeTheCroppedEar(t *testing.T) {
	l, err := weather.Before(words("cropped"))
	counts := map[string]int{}
	for _, e := range l {
		for i, s := range notations {
			if made, _ := weather.Apply(e, steps[i]); made == words("cropped") {
				counts[s[:4]]++
			}
		}
	}
	if len(l) != 58 || err != api.OK || counts["fros"] != 49 || counts["clos"] != 3 || counts["shut"] != 6 || len(counts) != 3 {
		t.Error(len(l), err, counts)
	}
}

// P2.2, examples
func TestStableExamples(t *testing.T) {
	for s, want := range map[string]bool{
		"cropped, upper bit 0, upper key 2": false,
		"cropped, upper bit 0, lower key 1": true,
		"cropped":                           true,
		"whole":                             false,
		"cropped, hole 2":                   false,
		"cropped, lower notch 0":            false,
	} {
		if got, err := weather.Stable(words(s)); got != want || err != api.OK {
			t.Error(s, got, err)
		}
	}
}

// P2.8: what a step makes is valid, and differs in one, two or three places.
func TestStepsChangeAFewPlaces(t *testing.T) {
	counts := map[int]int{}
	for _, e := range all().ears {
		l, _ := weather.Steps(e)
		for _, s := range l {
			made, err := weather.Apply(e, s)
			n, invalid := ear.Distance(e, made)
			if err != api.OK || invalid != api.OK {
				t.Fatal(e, s, made)
			}
			counts[n]++
		}
	}
	if counts[1] == 0 || counts[2] == 0 || counts[3] == 0 || len(counts) != 3 {
		t.Error(counts)
	}
}

// P2.8: if ears from which no step leads on are taken away again and again, none is left; so no steps lead back.
func TestNoStepsLeadBack(t *testing.T) {
	w := all()
	onwards := make([]int, len(w.ears))
	before := make([][]int, len(w.ears))
	var ends []int
	for n, e := range w.ears {
		l, _ := weather.Next(e)
		for _, x := range l {
			before[codeOf(x)] = append(before[codeOf(x)], n)
		}
		onwards[n] = len(l)
		if len(l) == 0 {
			ends = append(ends, n)
		}
	}
	for i := 0; i < len(ends); i++ {
		for _, n := range before[ends[i]] {
			onwards[n]--
			if onwards[n] == 0 {
				ends = append(ends, n)
			}
		}
	}
	if len(ends) != len(w.ears) {
		t.Error(len(ends))
	}
}

// P2.14: all ears.
func TestMirroredSteps(t *testing.T) {
	for _, e := range all().ears {
		m := ear.Mirror(e)
		for _, beside := range []func(api.Ear) ([]api.Ear, api.Errno){weather.Next, weather.Before} {
			l, _ := beside(e)
			if got, err := beside(m); !slices.Equal(got, mirrored(l)) || err != api.OK {
				t.Fatal(e, got, err)
			}
		}
		x, _ := weather.Stable(e)
		if y, _ := weather.Stable(m); x != y {
			t.Fatal(e)
		}
	}
}

// mirrored returns the mirrored ears of l in their order.
func mirrored(l []api.Ear) []api.Ear {
	var all []api.Ear
	for _, e := range l {
		all = append(all, ear.Mirror(e))
	}
	slices.SortFunc(all, ear.Compare)
	return all
}

// R2: each result is new memory.
func TestResultsAreNewMemory(t *testing.T) {
	e := rich()[2]
	for _, get := range []func() []api.Ear{
		func() []api.Ear { l, _ := weather.Next(e); return l },
		func() []api.Ear { l, _ := weather.Before(e); return l },
		func() []api.Ear { l, _ := weather.Closure(e, 2); return l },
		func() []api.Ear { l, _ := weather.Origins(e, 2); return l },
	} {
		l := get()
		want := slices.Clone(l)
		for i := range l {
			l[i] = api.Ear{Tip: 9}
		}
		if !slices.Equal(get(), want) {
			t.Error("a result is kept")
		}
	}
	l, _ := weather.Steps(e)
	want := slices.Clone(l)
	clear(l)
	if got, _ := weather.Steps(e); !slices.Equal(got, want) {
		t.Error("a result is kept")
	}
}
