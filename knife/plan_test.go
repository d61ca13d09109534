package knife_test

import (
	"maps"
	"slices"
	"testing"

	"earmark/api"
	"earmark/ear"
	"earmark/knife"
)

// P3.2
func TestOver(t *testing.T) {
	for _, e := range append(rich(), every(2503)...) {
		for n := range 4 {
			var want []api.Ear
			for _, x := range slices.Sorted(maps.Keys(cutsFrom(codeOf(e), n))) {
				want = append(want, all().ears[x])
			}
			if got, err := knife.Over(e, n); !slices.Equal(got, want) || err != api.OK {
				t.Fatal(e, n, len(got), len(want), err)
			}
		}
	}
}

// leastPlans returns, for all ears that can be cut out of e, the least sequence of cuts (as indices of cuts) that does: ears are gone on from in the order of the sequences that lead to them, so the first one found to an ear is the least one.
func leastPlans(e int) map[int][]int {
	plans := map[int][]int{e: {}}
	for open := []int{e}; len(open) > 0; open = open[1:] {
		for i, x := range all().made[open[0]] {
			if x < 0 {
				continue
			}
			if _, ok := plans[x]; !ok {
				plans[x] = append(slices.Clone(plans[open[0]]), i)
				open = append(open, x)
			}
		}
	}
	return plans
}

func cutsAt(plan []int) []api.Cut {
	var l []api.Cut
	for _, i := range plan {
		l = append(l, cuts[i])
	}
	return l
}

// P3.2: Plan is the least of all sequences, Least its length, and Can whether there is one.
func TestPlanLeastAndCan(t *testing.T) {
	for _, e := range append(rich()[1:], every(1201)...) {
		for n, plan := range leastPlans(codeOf(e)) {
			f := all().ears[n]
			l, ok, err := knife.Plan(e, f)
			if !slices.Equal(l, cutsAt(plan)) || !ok || err != api.OK {
				t.Fatal(e, f, l, ok, err, cutsAt(plan))
			}
			if got, ok, err := knife.Least(e, f); got != len(plan) || !ok || err != api.OK {
				t.Fatal(e, f, got, ok, err)
			}
			if made, _, err := knife.ApplyAll(e, l); made != f || err != api.OK {
				t.Fatal(e, f, made, err)
			}
		}
	}
}

// P3.2: for each ear and all others.
func TestLeastAndCanForAllEars(t *testing.T) {
	w := all()
	for _, e := range append(rich(), every(997)...) {
		goes := cutsFrom(codeOf(e), 99)
		for n, f := range w.ears {
			want, is := goes[n]
			if got, ok, err := knife.Least(e, f); got != want || ok != is || err != api.OK {
				t.Fatal(e, f, got, ok, err)
			}
			if ok, err := knife.Can(e, f); ok != is || err != api.OK {
				t.Fatal(e, f, ok, err)
			}
		}
	}
}

// P3.2: no plan where none can be.
func TestNoPlan(t *testing.T) {
	w := all()
	for _, e := range append(rich(), every(2003)...) {
		goes := cutsFrom(codeOf(e), 99)
		for n := 0; n < len(w.ears); n += 61 {
			if _, is := goes[n]; is {
				continue
			}
			if l, ok, err := knife.Plan(e, w.ears[n]); len(l) != 0 || ok || err != api.OK {
				t.Fatal(e, w.ears[n], l, ok, err)
			}
		}
	}
}

// P3.2: if each of two ears can be cut out of the other one, they are equal.
func TestCanOneWayOnly(t *testing.T) {
	l := append(every(211), rich()...)
	found := 0
	for _, e := range l {
		for _, f := range l {
			there, _ := knife.Can(e, f)
			back, _ := knife.Can(f, e)
			if there && back != (e == f) || e == f && !there {
				t.Fatal(e, f, there, back)
			}
			if there {
				found++
			}
		}
	}
	if found < 2*len(l) {
		t.Error(found)
	}
}

// P3.2, examples
func TestPlanExamples(t *testing.T) {
	for _, x := range []struct {
		from, to string
		want     []string
		ok       bool
	}{
		{"whole", "cropped", []string{"cut tip cropped"}, true},
		{"cropped", "whole", nil, false},
		{"whole", "whole", nil, true},
		{"hole 1", "whole", nil, false},
		{"hole 1", "upper bit 1", []string{"open upper 1"}, true},
		{"hole 1", "lower bit 1", []string{"open lower 1"}, true},
		{"hole 1", "upper notch 1", nil, false},
		{"hole 1", "upper key 1", []string{"cut upper 1 notch", "open upper 1"}, true},
		{"hole 1", "upper bit 1, lower bit 1", []string{"cut upper 1 bit", "open lower 1"}, true},
		{"whole", "upper bit 1", []string{"cut upper 1 bit"}, true},
		{"upper bit 1, hole 1", "upper bit 1", nil, false},
		{"upper notch 1, hole 1", "upper bit 1", nil, false},
		{"upper notch 1, hole 1", "upper key 1", []string{"open upper 1"}, true},
		{"upper key 1, hole 1", "upper key 1", []string{"open upper 1"}, true},
		{"upper key 1", "upper key 1, hole 1", nil, false},
		{"upper notch 1", "upper key 1, hole 1", []string{"punch 1", "cut upper 1 key"}, true},
		{"upper bit 3", "upper notch 2", nil, false},
		{"upper bit 3", "cropped, upper notch 2", []string{"cut tip cropped", "cut upper 2 notch"}, true},
		{"upper bit 3, hole 2", "hollowed, upper bit 2", []string{"cut tip hollowed", "open upper 2"}, true},
		{"forked", "slit", nil, false},
		{"whole", "forked, upper key 1, upper key 3, lower key 0, lower key 2, hole 0, hole 1, hole 2", []string{"cut tip forked", "cut upper 3 key", "punch 0", "cut lower 0 key", "punch 1", "cut upper 1 key", "punch 2", "cut lower 2 key"}, true},
	} {
		e, f := words(x.from), words(x.to)
		var want []api.Cut
		for _, s := range x.want {
			want = append(want, cutOf(s))
		}
		if got, ok, err := knife.Plan(e, f); !slices.Equal(got, want) || ok != x.ok || err != api.OK {
			t.Error(x, got, ok, err)
		}
		if n, ok, err := knife.Least(e, f); n != len(want) || ok != x.ok || err != api.OK {
			t.Error(x, n, ok, err)
		}
		if ok, err := knife.Can(e, f); ok != x.ok || err != api.OK {
			t.Error(x, ok, err)
		}
	}
}

// P3.2: the least sequence of cuts of both ears has that of the near ear first.
func TestPlanMark(t *testing.T) {
	l := append(every(7001), rich()...)
	found := map[bool]int{}
	for i, a := range l {
		for j, b := range l {
			from, to := api.Mark{Near: a, Far: l[(i+j)%len(l)]}, api.Mark{Near: b, Far: l[(i*j+j)%len(l)]}
			n, isNear, _ := knife.Plan(from.Near, to.Near)
			f, isFar, _ := knife.Plan(from.Far, to.Far)
			var want []api.Change
			if isNear && isFar {
				for _, c := range n {
					want = append(want, api.Change{Knife: true, Cut: c})
				}
				for _, c := range f {
					want = append(want, api.Change{Far: true, Knife: true, Cut: c})
				}
			}
			found[isNear && isFar]++
			got, ok, err := knife.PlanMark(from, to)
			if !slices.Equal(got, want) || ok != (isNear && isFar) || err != api.OK {
				t.Fatal(from, to, got, ok, err)
			}
			if made, _, err := knife.StepAll(from, got); ok && (made != to || err != api.OK) {
				t.Fatal(from, to, made, err)
			}
		}
	}
	if found[true] < 10 || found[false] < 10 {
		t.Error(found)
	}
}

// P3.2: by going through all sequences of at most two cuts of both ears.
func TestPlanMarkIsTheLeast(t *testing.T) {
	for _, m := range someMarks()[:3] {
		for p, way := range leastWays(m, budget(0, 2)) {
			if got, ok, err := knife.PlanMark(m, p.mark()); !slices.Equal(got, way) || !ok || err != api.OK {
				t.Fatal(m, p.mark(), got, ok, err)
			}
		}
	}
}

// P3.2
func TestPlanMarkExamples(t *testing.T) {
	from := markOf("near: whole; far: slit, hole 0")
	to := markOf("near: forked, hole 2; far: forked, lower bit 0")
	want := slices.Concat(near("cut tip forked", "punch 2"), far("cut tip forked", "open lower 0"))
	if got, ok, err := knife.PlanMark(from, to); !slices.Equal(got, want) || !ok || err != api.OK {
		t.Error(got, ok, err)
	}
	for _, p := range [][2]string{
		{"near: cropped; far: whole", "near: whole; far: slit"},
		{"near: whole; far: cropped", "near: slit; far: whole"},
		{"near: hole 0; far: hole 0", "near: whole; far: whole"},
	} {
		if got, ok, err := knife.PlanMark(markOf(p[0]), markOf(p[1])); len(got) != 0 || ok || err != api.OK {
			t.Error(p, got, ok, err)
		}
	}
	if got, ok, err := knife.PlanMark(from, from); len(got) != 0 || !ok || err != api.OK {
		t.Error(got, ok, err)
	}
}

// P3.2
func TestVictims(t *testing.T) {
	var l []api.Mark
	for i, e := range every(1499) {
		l = append(l, api.Mark{Near: e, Far: rich()[i%len(rich())]}, api.Mark{Near: rich()[i%len(rich())], Far: e})
	}
	l = append(l, someMarks()...)
	for p := range looks(someMarks()[2], budget(0, 2)) {
		if (p[0]+p[1])%3 == 0 {
			l = append(l, p.mark())
		}
	}
	kept := slices.Clone(l)
	for _, m := range someMarks() {
		nears, fars := cutsFrom(codeOf(m.Near), 3), cutsFrom(codeOf(m.Far), 3)
		for n := range 4 {
			var want []int
			for i, x := range l {
				a, okA := nears[codeOf(x.Near)]
				b, okB := fars[codeOf(x.Far)]
				if okA && okB && a+b <= n {
					want = append(want, i)
				}
			}
			if got, err := knife.Victims(m, l, n); !slices.Equal(got, want) || err != api.OK {
				t.Fatal(m, n, got, want, err)
			}
			swapped := make([]api.Mark, len(l))
			for i, x := range l {
				swapped[i] = ear.Swap(x)
			}
			if got, err := knife.Victims(ear.Swap(m), swapped, n); !slices.Equal(got, want) || err != api.OK {
				t.Fatal(m, n, got, want, err)
			}
		}
	}
	if !slices.Equal(l, kept) {
		t.Error("an argument has been changed")
	}
}

// P3.2, examples
func TestVictimsExamples(t *testing.T) {
	whole := api.Mark{}
	l := []api.Mark{whole, markOf("near: forked; far: whole"), markOf("near: forked; far: forked"), whole}
	for n, want := range [][]int{{0, 3}, {0, 1, 3}, {0, 1, 2, 3}, {0, 1, 2, 3}} {
		if got, err := knife.Victims(whole, l, n); !slices.Equal(got, want) || err != api.OK {
			t.Error(n, got, err)
		}
	}
	if got, err := knife.Victims(l[2], l, 3); !slices.Equal(got, []int{2}) || err != api.OK {
		t.Error(got, err)
	}
	for _, none := range [][]api.Mark{nil, {}} {
		if got, err := knife.Victims(whole, none, 3); len(got) != 0 || err != api.OK {
			t.Error(got, err)
		}
	}
}
