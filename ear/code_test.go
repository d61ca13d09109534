package ear_test

import (
	"testing"

	"earmark/api"
	"earmark/ear"
)

// P1.2
func TestCount(t *testing.T) {
	if ear.Count() != 44176 || len(ears()) != 44176 {
		t.Error(ear.Count(), len(ears()))
	}
}

// P1.2 and P1.6: the codes count the ears in their order, FromCode is the inverse, and Next goes on by one.
func TestCodesOfAllEars(t *testing.T) {
	all := ears()
	for n, e := range all {
		if got, err := ear.Code(e); got != n || err != api.OK {
			t.Fatal(e, got, err)
		}
		if got, err := ear.FromCode(n); got != e || err != api.OK {
			t.Fatal(n, got, err)
		}
		next, is, err := ear.Next(e)
		if n+1 < len(all) && (next != all[n+1] || !is || err != api.OK) {
			t.Fatal(n, next, is, err)
		}
	}
}

// P1.6
func TestCodesPreserveTheOrder(t *testing.T) {
	l := some(211)
	for _, a := range l {
		for _, b := range l {
			x, _ := ear.Code(a)
			y, _ := ear.Code(b)
			if c := ear.Compare(a, b); (c < 0) != (x < y) || (c == 0) != (x == y) {
				t.Fatal(a, b, c, x, y)
			}
		}
	}
}

// P1.2
func TestFromCodeOutOfRange(t *testing.T) {
	for _, n := range []int{-1 << 63, -44176, -1, 44176, 44177, 1 << 32, 1<<63 - 1} {
		if e, err := ear.FromCode(n); e != (api.Ear{}) || err != api.ErrArg {
			t.Error(n, e, err)
		}
	}
}

// P1.2, examples
func TestCodeExamples(t *testing.T) {
	if n, err := ear.Code(api.Ear{}); n != 0 || err != api.OK {
		t.Error(n, err)
	}
	if n, err := ear.Code(api.Ear{Holes: [3]bool{false, false, true}}); n != 1 || err != api.OK {
		t.Error(n, err)
	}
	last, err := ear.FromCode(44175)
	if last != lastEar() || err != api.OK {
		t.Error(last, err)
	}
	if e, is, err := ear.Next(last); e != (api.Ear{}) || is || err != api.OK {
		t.Error(e, is, err)
	}
}
