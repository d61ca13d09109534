package ear_test

import (
	"slices"
	"testing"

	"earmark/api"
	"earmark/ear"
)

// P1.1
func TestCheckAcceptsExactlyTheValidEars(t *testing.T) {
	for v, more := ([12]int{}), true; more; more = step(&v) {
		want := api.OK
		if !valid(v) {
			want = api.ErrEar
		}
		if got := ear.Check(earOf(v)); got != want {
			t.Fatal(v, got)
		}
	}
}

// P1.1
func TestCheckOfEachPlace(t *testing.T) {
	for place, size := range placeSizes[:9] {
		for _, value := range []int{-1 << 63, -2, -1, 0, size - 1, size, size + 1, 1 << 62} {
			var v [12]int
			v[place] = value
			want := api.OK
			if !valid(v) {
				want = api.ErrEar
			}
			if got := ear.Check(earOf(v)); got != want {
				t.Error(place, value, got)
			}
		}
	}
}

// P1.1
func TestCheckMark(t *testing.T) {
	for _, e := range some(97) {
		for _, m := range []api.Mark{{Near: e}, {Far: e}, {Near: e, Far: lastEar()}, {Near: sample(), Far: e}} {
			if err := ear.CheckMark(m); err != api.OK {
				t.Error(m, err)
			}
		}
	}
}

// P1.1, examples
func TestCheckExamples(t *testing.T) {
	slit := api.Ear{Tip: api.Slit, Upper: [4]int{api.Notch, api.Notch}}
	cropped := api.Ear{Tip: api.Cropped, Lower: [4]int{0, 0, 0, api.Bit}}
	if ear.Check(slit) != api.ErrEar || ear.Check(cropped) != api.ErrEar {
		t.Error(ear.Check(slit), ear.Check(cropped))
	}
}

// oddEars are valid and invalid ears with few and with extreme values.
func oddEars() []api.Ear {
	l := append(badEars(), some(4999)...)
	for place := range placeSizes {
		for _, value := range []int{1, 2, 3} {
			var v [12]int
			v[place] = value
			l = append(l, earOf(v))
			v[0] = -3
			l = append(l, earOf(v))
		}
	}
	return l
}

// P1.1: invalid ears are compared too.
func TestCompare(t *testing.T) {
	l := oddEars()
	for _, a := range l {
		for _, b := range l {
			want := compareValues(a, b)
			if got := ear.Compare(a, b); got != want {
				t.Fatal(a, b, got)
			}
		}
	}
	a, b := api.Ear{Tip: -1 << 63}, api.Ear{Tip: 1<<63 - 1}
	if ear.Compare(a, b) != -1 || ear.Compare(b, a) != 1 {
		t.Error("the difference of two tips overflows")
	}
}

// P1.1: the order is by the places, one after the other.
func TestCompareGoesByThePlacesInOrder(t *testing.T) {
	for place := range placeSizes {
		var less, more [12]int
		more[place] = 1
		for later := place + 1; later < 12; later++ {
			less[later] = 1
		}
		if ear.Compare(earOf(less), earOf(more)) != -1 || ear.Compare(earOf(more), earOf(less)) != 1 {
			t.Error(place)
		}
	}
}

// P1.1
func TestCompareMarks(t *testing.T) {
	l := append(badEars()[:9], some(9999)...)
	for _, near := range l {
		for _, far := range l {
			a := api.Mark{Near: near, Far: far}
			for _, other := range l {
				for _, b := range []api.Mark{{Near: near, Far: other}, {Near: other, Far: far}, {Near: other, Far: near}} {
					want := compareValues(a.Near, b.Near)
					if want == 0 {
						want = compareValues(a.Far, b.Far)
					}
					if got := ear.CompareMarks(a, b); got != want {
						t.Fatal(a, b, got)
					}
				}
			}
		}
	}
}

// P1.7: antisymmetric, transitive, and 0 for equal arguments only.
func TestCompareIsATotalOrder(t *testing.T) {
	l := oddEars()
	slices.SortFunc(l, ear.Compare)
	for i, a := range l {
		for j, b := range l[i:] {
			c, d := ear.Compare(a, b), ear.Compare(b, a)
			if c != -d || c > 0 || (c == 0) != (a == b) {
				t.Fatal(i, i+j, c, d)
			}
		}
	}
}

// P1.7
func TestCompareMarksIsATotalOrder(t *testing.T) {
	var l []api.Mark
	for _, near := range append(badEars()[:8], some(9001)...) {
		for _, far := range append(badEars()[4:12], some(9001)...) {
			l = append(l, api.Mark{Near: near, Far: far})
		}
	}
	slices.SortFunc(l, ear.CompareMarks)
	for i, a := range l {
		for j, b := range l[i:] {
			c, d := ear.CompareMarks(a, b), ear.CompareMarks(b, a)
			if c != -d || c > 0 || (c == 0) != (a == b) {
				t.Fatal(i, i+j, c, d)
			}
		}
	}
}

// P1.1 and P1.11: Mirror and Swap, also of invalid arguments.
func TestMirrorAndSwap(t *testing.T) {
	for _, e := range oddEars() {
		want := api.Ear{Tip: e.Tip, Upper: e.Lower, Lower: e.Upper, Holes: e.Holes}
		if got := ear.Mirror(e); got != want || ear.Mirror(got) != e {
			t.Error(e, got)
		}
		if ear.Check(ear.Mirror(e)) != ear.Check(e) {
			t.Error(e, "the mirrored ear is not as valid")
		}
		m := api.Mark{Near: e, Far: sample()}
		if got := ear.Swap(m); got != (api.Mark{Near: sample(), Far: e}) || ear.Swap(got) != m {
			t.Error(m, got)
		}
		if ear.CheckMark(ear.Swap(m)) != ear.CheckMark(m) {
			t.Error(m, "the swapped mark is not as valid")
		}
	}
}
