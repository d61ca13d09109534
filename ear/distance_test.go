package ear_test

import (
	"slices"
	"testing"

	"earmark/api"
	"earmark/ear"
)

// P1.4 and P1.10: how many places differ; 0 for equal ears only, and symmetric.
func TestDistance(t *testing.T) {
	l := some(149)
	for _, a := range l {
		for _, b := range l {
			x, err := ear.Distance(a, b)
			y, _ := ear.Distance(b, a)
			if x != distance(a, b) || err != api.OK || x != y || (x == 0) != (a == b) {
				t.Fatal(a, b, x, y, err)
			}
		}
	}
	if n, err := ear.Distance(api.Ear{Tip: 1, Upper: [4]int{0, 1, 0, 1}, Lower: [4]int{0, 1, 0, 1}}, lastEar()); n != 12 || err != api.OK {
		t.Error(n, err)
	}
}

// P1.10
func TestTriangleInequality(t *testing.T) {
	l := some(997)
	for _, a := range l {
		for _, b := range l {
			for _, c := range l {
				x, _ := ear.Distance(a, b)
				y, _ := ear.Distance(b, c)
				if z, _ := ear.Distance(a, c); z > x+y {
					t.Fatal(a, b, c)
				}
			}
		}
	}
}

// P1.4
func TestMarkDistance(t *testing.T) {
	l := some(5003)
	for _, a := range l {
		for _, b := range l {
			for _, c := range l {
				n, err := ear.MarkDistance(api.Mark{Near: a, Far: b}, api.Mark{Near: c, Far: a})
				if n != distance(a, c)+distance(b, a) || err != api.OK {
					t.Fatal(a, b, c, n, err)
				}
			}
		}
	}
	other := api.Ear{Tip: 1, Upper: [4]int{0, 1, 0, 1}, Lower: [4]int{0, 1, 0, 1}}
	if n, err := ear.MarkDistance(api.Mark{Near: other, Far: lastEar()}, api.Mark{Near: lastEar(), Far: other}); n != 24 || err != api.OK {
		t.Error(n, err)
	}
}

// P1.4: by comparison with all valid ears.
func TestNeighbours(t *testing.T) {
	for _, e := range some(499) {
		var want []api.Ear
		for _, x := range ears() {
			if distance(e, x) == 1 {
				want = append(want, x)
			}
		}
		if got, err := ear.Neighbours(e); !slices.Equal(got, want) || err != api.OK {
			t.Fatal(e, got, err)
		}
	}
	if l, err := ear.Neighbours(api.Ear{}); len(l) != 31 || err != api.OK {
		t.Error(len(l), err)
	}
}

// P1.10 and P1.11: all neighbours of all ears are valid, one place away, in order, and neighbours the other way round; those of a mirrored ear are the mirrored ones.
func TestNeighboursOfAllEars(t *testing.T) {
	pairs := map[[2]api.Ear]bool{}
	for _, e := range ears() {
		l, err := ear.Neighbours(e)
		if err != api.OK {
			t.Fatal(e, err)
		}
		for i, x := range l {
			if ear.Check(x) != api.OK || distance(e, x) != 1 || i > 0 && compareValues(l[i-1], x) >= 0 {
				t.Fatal(e, l)
			}
			pairs[[2]api.Ear{e, x}] = true
		}
		var mirrored []api.Ear
		for _, x := range l {
			mirrored = append(mirrored, ear.Mirror(x))
		}
		slices.SortFunc(mirrored, compareValues)
		if got, _ := ear.Neighbours(ear.Mirror(e)); !slices.Equal(got, mirrored) {
			t.Fatal(e, got)
		}
	}
	for p := range pairs {
		if !pairs[[2]api.Ear{p[1], p[0]}] {
			t.Fatal(p)
		}
	}
}

// P1.10: a way from each ear to the zero ear by as many neighbours as it has features.
func TestNeighboursLeadToTheZeroEar(t *testing.T) {
	for _, e := range some(83) {
		features := len(featuresOf(e))
		for n := range features {
			l, _ := ear.Neighbours(e)
			i := slices.IndexFunc(l, func(x api.Ear) bool { return len(featuresOf(x)) == features-n-1 })
			if i < 0 {
				t.Fatal(e)
			}
			e = l[i]
		}
		if e != (api.Ear{}) {
			t.Fatal(e)
		}
	}
}

// P1.11
func TestMirrorAndSwapPreserveDistances(t *testing.T) {
	l := some(499)
	for i, a := range l {
		for j, b := range l {
			x, _ := ear.Distance(a, b)
			if y, err := ear.Distance(ear.Mirror(a), ear.Mirror(b)); x != y || err != api.OK {
				t.Fatal(a, b, x, y, err)
			}
			m, n := api.Mark{Near: a, Far: l[len(l)-1-j]}, api.Mark{Near: b, Far: l[len(l)-1-i]}
			x, _ = ear.MarkDistance(m, n)
			if y, err := ear.MarkDistance(ear.Swap(m), ear.Swap(n)); x != y || err != api.OK {
				t.Fatal(m, n, x, y, err)
			}
		}
	}
}

// R2: each result is new memory.
func TestNeighboursAreNewMemory(t *testing.T) {
	l, _ := ear.Neighbours(sample())
	want := slices.Clone(l)
	l[0] = api.Ear{Tip: 9}
	if got, _ := ear.Neighbours(sample()); !slices.Equal(got, want) {
		t.Error(got)
	}
}
