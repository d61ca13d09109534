package knife_test

import (
	"slices"
	"testing"

	"earmark/api"
	"earmark/ear"
	"earmark/knife"
	"earmark/weather"
)

// P3.4: all changes of some marks; the other ear stays as it is.
func TestStep(t *testing.T) {
	for _, m := range append(someMarks(), api.Mark{Near: rich()[2], Far: rich()[3]}, api.Mark{Near: rich()[5], Far: rich()[2]}) {
		for _, c := range changes() {
			e := m.Near
			if c.Far {
				e = m.Far
			}
			var made api.Ear
			var failed api.Errno
			if c.Knife {
				made, failed = knife.Apply(e, c.Cut)
			} else {
				made, failed = weather.Apply(e, c.Step)
			}
			want, wantErr := api.Mark{}, api.ErrChange
			if failed == api.OK {
				want, wantErr = m, api.OK
				if c.Far {
					want.Far = made
				} else {
					want.Near = made
				}
			}
			if got, err := knife.Step(m, c); got != want || err != wantErr {
				t.Fatal(m, c, got, err)
			}
		}
		for _, c := range badChanges() {
			if got, err := knife.Step(m, c); got != (api.Mark{}) || err != api.ErrChange {
				t.Fatal(m, c, got, err)
			}
		}
	}
}

// P3.4: after each change the next one is tried on what the former ones have made.
func TestStepAll(t *testing.T) {
	m := markOf("near: slit, hole 1; far: upper notch 0")
	l := slices.Concat(far("cut upper 2 bit"), near("heal", "tear lower 1"), far("run upper 0", "frost"), near("punch 1", "cut tip slit"), far("punch 0"))
	want := markOf("near: slit, lower bit 1, hole 1; far: cropped, upper key 1, hole 0")
	if got, n, err := knife.StepAll(m, l); got != want || n != 0 || err != api.OK {
		t.Error(got, n, err)
	}
	for i := range l {
		for _, bad := range slices.Concat(badChanges()[:20], near("wear lower 3", "open upper 0"), far("close 2", "cut upper 0 notch")) {
			changed := slices.Clone(l)
			changed[i] = bad
			kept := slices.Clone(changed)
			if got, n, err := knife.StepAll(m, changed); got != (api.Mark{}) || n != i || err != api.ErrChange {
				t.Error(i, bad, got, n, err)
			}
			if !slices.Equal(changed, kept) {
				t.Error("an argument has been changed")
			}
		}
	}
	for _, none := range [][]api.Change{nil, {}} {
		if got, n, err := knife.StepAll(m, none); got != m || n != 0 || err != api.OK {
			t.Error(got, n, err)
		}
	}
	if got, n, err := knife.StepAll(m, near("heal", "frost", "frost", "punch 0")); got != (api.Mark{}) || n != 2 || err != api.ErrChange {
		t.Error(got, n, err)
	}
}

// P3.4: Way is the least of all sequences, Looks whether there is one; CheckWay accepts it, and within no budget that is less.
func TestWayAndLooks(t *testing.T) {
	for i, m := range someMarks() {
		for _, b := range budgets() {
			if b.Weather+b.Cuts == 3 && i != 1 && i != 7 {
				continue
			}
			for p, way := range leastWays(m, b) {
				seen := p.mark()
				if got, ok, err := knife.Way(m, seen, b); !slices.Equal(got, way) || !ok || err != api.OK {
					t.Fatal(m, seen, b, got, ok, err, way)
				}
				if ok, err := knife.Looks(m, seen, b); !ok || err != api.OK {
					t.Fatal(m, seen, b, ok, err)
				}
				if err := knife.CheckWay(m, seen, b, way); err != api.OK {
					t.Fatal(m, seen, b, way, err)
				}
				if made, _, err := knife.StepAll(m, way); made != seen || err != api.OK {
					t.Fatal(m, seen, way, made, err)
				}
			}
		}
	}
}

// P3.4: no way leads to marks that are not come to look like.
func TestNoWay(t *testing.T) {
	for _, m := range someMarks() {
		beyond := looks(m, budget(1, 2))
		for p := range looks(m, budget(2, 1)) {
			beyond[p] = true
		}
		for _, b := range []api.Budget{budget(0, 0), budget(1, 0), budget(0, 1), budget(1, 1), budget(2, 0), budget(0, 2)} {
			reached := looks(m, b)
			for p := range beyond {
				if reached[p] || (p[0]+p[1])%11 != 0 {
					continue
				}
				if l, ok, err := knife.Way(m, p.mark(), b); len(l) != 0 || ok || err != api.OK {
					t.Fatal(m, p.mark(), b, l, ok, err)
				}
				if ok, err := knife.Looks(m, p.mark(), b); ok || err != api.OK {
					t.Fatal(m, p.mark(), b, ok, err)
				}
			}
		}
	}
}

// P3.4: within each budget, for each pair of some marks.
func TestLooksAmongSomeMarks(t *testing.T) {
	found := map[bool]int{}
	for _, m := range someMarks() {
		for _, b := range budgets() {
			reached := looks(m, b)
			for _, seen := range someMarks() {
				want := reached[pairOf(seen)]
				found[want]++
				if ok, err := knife.Looks(m, seen, b); ok != want || err != api.OK {
					t.Fatal(m, seen, b, ok, err)
				}
				if ok, err := knife.Looks(ear.Swap(m), ear.Swap(seen), b); ok != want || err != api.OK {
					t.Fatal(m, seen, b, ok, err)
				}
			}
		}
	}
	if found[true] < 110 || found[false] < 100 {
		t.Error(found)
	}
}

// P3.4, examples
func TestWayExamples(t *testing.T) {
	for _, x := range []struct {
		from, to string
		b        api.Budget
		want     []api.Change
		ok       bool
	}{
		{"near: slit; far: whole", "near: whole; far: whole", budget(1, 0), near("heal"), true},
		{"near: slit; far: whole", "near: whole; far: whole", budget(0, 3), nil, false},
		{"near: slit; far: whole", "near: slit; far: whole", budget(0, 0), nil, true},
		// A step comes before a cut.
		{"near: slit; far: whole", "near: cropped; far: whole", budget(1, 1), near("frost"), true},
		{"near: slit; far: whole", "near: cropped; far: whole", budget(0, 1), near("cut tip cropped"), true},
		{"near: whole; far: whole", "near: cropped; far: cropped", budget(1, 1), slices.Concat(near("frost"), far("cut tip cropped")), true},
		{"near: whole; far: whole", "near: cropped; far: cropped", budget(1, 0), nil, false},
		{"near: whole; far: whole", "near: cropped; far: cropped", budget(0, 2), slices.Concat(near("cut tip cropped"), far("cut tip cropped")), true},
		// The far ear needs the step.
		{"near: whole; far: slit", "near: cropped; far: whole", budget(1, 1), slices.Concat(near("cut tip cropped"), far("heal")), true},
		// Two steps, which come first, or one cut, which is shorter.
		{"near: slit, upper bit 3; far: whole", "near: cropped, lower bit 0; far: whole", budget(2, 1), near("frost", "cut lower 0 bit"), true},
		{"near: hole 1; far: whole", "near: upper bit 1, hole 1; far: whole", budget(1, 1), near("cut upper 1 bit"), true},
		{"near: upper notch 1; far: whole", "near: upper bit 1; far: upper bit 0", budget(1, 1), slices.Concat(near("wear upper 1"), far("cut upper 0 bit")), true},
		{"near: whole; far: upper notch 1", "near: upper bit 0; far: upper bit 1", budget(1, 1), slices.Concat(near("cut upper 0 bit"), far("wear upper 1")), true},
		// Steps and cuts take turns.
		{"near: upper bit 0; far: whole", "near: upper key 1; far: whole", budget(1, 1), near("cut upper 2 notch", "run upper 0"), true},
		{"near: upper notch 0; far: whole", "near: upper key 1; far: whole", budget(1, 1), near("shut upper 0", "cut upper 1 key"), true},
		{"near: upper key 0; far: whole", "near: upper key 1; far: whole", budget(0, 3), nil, false},
		{"near: whole; far: whole", "near: upper bit 1; far: lower notch 2", budget(2, 1), nil, false},
		{"near: hole 0; far: whole", "near: whole; far: whole", budget(0, 3), nil, false},
		{"near: hole 0; far: whole", "near: whole; far: whole", budget(1, 2), near("close 0"), true},
	} {
		from, to := markOf(x.from), markOf(x.to)
		if got, ok, err := knife.Way(from, to, x.b); !slices.Equal(got, x.want) || ok != x.ok || err != api.OK {
			t.Error(x, got, ok, err)
		}
		if ok, err := knife.Looks(from, to, x.b); ok != x.ok || err != api.OK {
			t.Error(x, ok, err)
		}
	}
}

// P3.4: CheckWay accepts every sequence that leads there within the budget, not the least one only.
func TestCheckWay(t *testing.T) {
	m, seen := markOf("near: slit; far: hole 1"), markOf("near: cropped; far: lower bit 1")
	for _, x := range []struct {
		b    api.Budget
		l    []api.Change
		want api.Errno
	}{
		{budget(1, 1), slices.Concat(near("frost"), far("open lower 1")), api.OK},
		{budget(1, 1), slices.Concat(far("open lower 1"), near("frost")), api.OK},
		{budget(1, 1), slices.Concat(far("tear lower 1"), near("cut tip cropped")), api.OK},
		{budget(2, 0), slices.Concat(far("tear lower 1"), near("frost")), api.OK},
		{budget(2, 1), slices.Concat(far("tear lower 1"), near("heal", "cut tip cropped")), api.OK},
		{budget(1, 2), slices.Concat(far("open lower 1"), near("cut tip hollowed", "frost")), api.OK},
		{budget(0, 3), slices.Concat(near("cut tip forked", "cut tip cropped"), far("open lower 1")), api.OK},
		{budget(1, 0), slices.Concat(near("frost"), far("open lower 1")), api.ErrChange},
		{budget(0, 1), slices.Concat(near("frost"), far("open lower 1")), api.ErrChange},
		{budget(0, 2), slices.Concat(near("frost"), far("open lower 1")), api.ErrChange},
		{budget(2, 0), slices.Concat(near("frost"), far("open lower 1")), api.ErrChange},
		{budget(1, 1), slices.Concat(near("heal"), near("frost"), far("open lower 1")), api.ErrChange},
		{budget(3, 0), slices.Concat(near("frost"), far("close 1", "tear lower 1")), api.ErrChange},
		{budget(3, 0), near("frost"), api.ErrChange},
		{budget(3, 0), far("tear lower 1"), api.ErrChange},
		{budget(3, 0), nil, api.ErrChange},
		{budget(3, 0), slices.Concat(near("frost"), far("tear upper 1")), api.ErrChange},
		{budget(1, 2), slices.Concat(near("frost"), far("open lower 1", "punch 1")), api.ErrChange},
		{budget(3, 0), slices.Concat(near("frost"), far("tear lower 1"), []api.Change{{}}), api.ErrChange},
		{budget(3, 0), slices.Concat([]api.Change{{Knife: true}}, near("frost"), far("tear lower 1")), api.ErrChange},
	} {
		kept := slices.Clone(x.l)
		if err := knife.CheckWay(m, seen, x.b, x.l); err != x.want {
			t.Error(x, err)
		}
		if !slices.Equal(x.l, kept) {
			t.Error("an argument has been changed")
		}
	}
	for _, b := range budgets() {
		for _, none := range [][]api.Change{nil, {}} {
			if err := knife.CheckWay(m, m, b, none); err != api.OK {
				t.Error(b, err)
			}
		}
		if err := knife.CheckWay(m, m, b, far("punch 0", "close 0")); (err == api.OK) != (b.Weather > 0 && b.Cuts > 0) {
			t.Error(b, err)
		}
		for _, bad := range badChanges() {
			if err := knife.CheckWay(m, m, b, []api.Change{bad}); err != api.ErrChange {
				t.Error(b, bad, err)
			}
		}
	}
}

// P3.4: CheckWay accepts exactly the sequences that lead there within the budget.
func TestCheckWayOfAllPairs(t *testing.T) {
	accepted := 0
	m := markOf("near: slit, hole 1, upper notch 1; far: upper notch 0, upper notch 2")
	for _, x := range changes() {
		for _, y := range changes() {
			l := []api.Change{x, y}
			seen, _, failed := knife.StepAll(m, l)
			for _, b := range []api.Budget{budget(2, 0), budget(0, 2), budget(1, 1), budget(2, 1)} {
				k := counts{}.and(x).and(y)
				want := api.ErrChange
				if failed == api.OK && k.within(b) {
					want = api.OK
					accepted++
				}
				if err := knife.CheckWay(m, seen, b, l); err != want {
					t.Fatal(l, b, err)
				}
			}
			if err := knife.CheckWay(m, m, budget(2, 1), l); err == api.OK && seen != m {
				t.Fatal(l)
			}
		}
	}
	if accepted < 1000 {
		t.Error(accepted)
	}
}

// P3.4: the budgets of ways after one another add up.
func TestLooksOneAfterTheOther(t *testing.T) {
	for _, m := range someMarks() {
		for _, x := range [][2]api.Budget{{budget(1, 0), budget(0, 1)}, {budget(0, 1), budget(1, 1)}, {budget(1, 1), budget(1, 0)}, {budget(0, 2), budget(0, 1)}} {
			sum := budget(x[0].Weather+x[1].Weather, x[0].Cuts+x[1].Cuts)
			for p := range looks(m, x[0]) {
				if p[0]%7 != 0 {
					continue
				}
				for q := range looks(p.mark(), x[1]) {
					if (q[0]+q[1])%13 != 0 {
						continue
					}
					if ok, err := knife.Looks(m, q.mark(), sum); !ok || err != api.OK {
						t.Fatal(m, p.mark(), q.mark(), x, ok, err)
					}
				}
			}
		}
	}
}
