package knife_test

import (
	"maps"
	"slices"
	"testing"

	"earmark/api"
	"earmark/ear"
	"earmark/knife"
	"earmark/weather"
)

// costsOf returns the costs of all ears within b as the chapter says them: the counts that lead there, unless others do that are at most as great and less in one of them.
func costsOf(e api.Ear, b api.Budget) []api.Cost {
	var l []api.Cost
	led := countsOf(codeOf(e), b)
	for _, x := range slices.Sorted(maps.Keys(led)) {
		slices.SortFunc(led[x], func(a, b counts) int { return slices.Compare(a[:], b[:]) })
		for _, k := range led[x] {
			if !slices.ContainsFunc(led[x], func(o counts) bool { return o != k && o[0] <= k[0] && o[1] <= k[1] }) {
				l = append(l, api.Cost{Ear: all().ears[x], Weather: k[0], Cuts: k[1]})
			}
		}
	}
	return l
}

// P3.3
func TestCosts(t *testing.T) {
	several := 0
	for _, e := range append(rich(), every(6007)...) {
		for _, b := range budgets() {
			want := costsOf(e, b)
			got, err := knife.Costs(e, b)
			if !slices.Equal(got, want) || err != api.OK {
				t.Fatal(e, b, len(got), len(want), err)
			}
			for i := 1; i < len(got); i++ {
				if got[i].Ear == got[i-1].Ear {
					several++
				}
			}
		}
	}
	if several < 100 {
		t.Error(several)
	}
}

// P3.3, examples
func TestCostsExamples(t *testing.T) {
	l, err := knife.Costs(words("slit"), budget(1, 1))
	for _, want := range [][]api.Cost{
		{{Ear: words("whole"), Weather: 1}},
		{{Ear: words("slit")}},
		{{Ear: words("cropped"), Cuts: 1}, {Ear: words("cropped"), Weather: 1}},
		{{Ear: words("upper bit 1"), Weather: 1, Cuts: 1}},
		{{Ear: words("slit, hole 2"), Cuts: 1}},
	} {
		var got []api.Cost
		for _, c := range l {
			if c.Ear == want[0].Ear {
				got = append(got, c)
			}
		}
		if !slices.Equal(got, want) || err != api.OK {
			t.Error(got, want, err)
		}
	}
	l, err = knife.Costs(words("cropped, hole 0"), budget(0, 0))
	if !slices.Equal(l, []api.Cost{{Ear: words("cropped, hole 0")}}) || err != api.OK {
		t.Error(l, err)
	}
	l, err = knife.Costs(words("slit, upper notch 0"), budget(2, 1))
	want := []api.Cost{{Ear: words("cropped"), Weather: 1, Cuts: 1}, {Ear: words("cropped"), Weather: 2}}
	var got []api.Cost
	for _, c := range l {
		if c.Ear == words("cropped") {
			got = append(got, c)
		}
	}
	if !slices.Equal(got, want) || err != api.OK {
		t.Error(got, err)
	}
}

// P3.3: without cuts, the closure with its distances; without weather, what is cut by as many cuts as Least says.
func TestCostsOfOneKind(t *testing.T) {
	for _, e := range append(rich(), every(3001)...) {
		for n := range 4 {
			var closure, over []api.Cost
			l, _ := weather.Closure(e, n)
			for _, x := range l {
				steps, _, _ := weather.Distance(e, x, n)
				closure = append(closure, api.Cost{Ear: x, Weather: steps})
			}
			if got, err := knife.Costs(e, budget(n, 0)); !slices.Equal(got, closure) || err != api.OK {
				t.Fatal(e, n, got, err)
			}
			l, _ = knife.Over(e, n)
			for _, x := range l {
				least, _, _ := knife.Least(e, x)
				over = append(over, api.Cost{Ear: x, Cuts: least})
			}
			if got, err := knife.Costs(e, budget(0, n)); !slices.Equal(got, over) || err != api.OK {
				t.Fatal(e, n, got, err)
			}
		}
	}
}

// P3.3: the costs of the ear itself are none.
func TestCostsOfTheEarItself(t *testing.T) {
	for _, e := range every(1009) {
		for _, b := range []api.Budget{budget(1, 1), budget(0, 2), budget(2, 0)} {
			l, err := knife.Costs(e, b)
			i := slices.IndexFunc(l, func(c api.Cost) bool { return c.Ear == e })
			if i < 0 || l[i] != (api.Cost{Ear: e}) || i+1 < len(l) && l[i+1].Ear == e || err != api.OK {
				t.Fatal(e, b, i, err)
			}
			if !slices.IsSortedFunc(l, func(x, y api.Cost) int {
				if c := ear.Compare(x.Ear, y.Ear); c != 0 {
					return c
				}
				return x.Weather - y.Weather
			}) {
				t.Fatal(e, b, l)
			}
		}
	}
}
