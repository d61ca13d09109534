package ear_test

import (
	"slices"
	"sync"
	"testing"

	"earmark/api"
	"earmark/ear"
)

// The tests compare the package with a plain reading of the chapter: an ear as its 12 values in the order of the places, and lists of all of them.

var placeSizes = [12]int{5, 4, 4, 4, 4, 4, 4, 4, 4, 2, 2, 2}

func earOf(v [12]int) api.Ear {
	return api.Ear{
		Tip:   v[0],
		Upper: [4]int{v[1], v[2], v[3], v[4]},
		Lower: [4]int{v[5], v[6], v[7], v[8]},
		Holes: [3]bool{v[9] == 1, v[10] == 1, v[11] == 1},
	}
}

func valuesOf(e api.Ear) [12]int {
	v := [12]int{e.Tip, e.Upper[0], e.Upper[1], e.Upper[2], e.Upper[3], e.Lower[0], e.Lower[1], e.Lower[2], e.Lower[3]}
	for i, punched := range e.Holes {
		if punched {
			v[9+i] = 1
		}
	}
	return v
}

func valid(v [12]int) bool {
	for i, n := range placeSizes {
		if v[i] < 0 || v[i] >= n {
			return false
		}
	}
	for _, i := range []int{1, 2, 3, 5, 6, 7} {
		if v[i] != 0 && v[i+1] != 0 {
			return false
		}
	}
	return v[0] < api.Hollowed || v[4] == 0 && v[8] == 0
}

// step sets v to the next list of values that are in their ranges, and reports whether there is one.
func step(v *[12]int) bool {
	for i := 11; i >= 0; i-- {
		v[i]++
		if v[i] < placeSizes[i] {
			return true
		}
		v[i] = 0
	}
	return false
}

// ears returns all valid ears in their order.
var ears = sync.OnceValue(func() []api.Ear {
	var l []api.Ear
	for v, more := ([12]int{}), true; more; more = step(&v) {
		if valid(v) {
			l = append(l, earOf(v))
		}
	}
	return l
})

// some returns every n-th valid ear, and the last one.
func some(n int) []api.Ear {
	var l []api.Ear
	all := ears()
	for i := 0; i < len(all); i += n {
		l = append(l, all[i])
	}
	return append(l, all[len(all)-1])
}

func compareValues(a, b api.Ear) int {
	x, y := valuesOf(a), valuesOf(b)
	return slices.Compare(x[:], y[:])
}

func distance(a, b api.Ear) int {
	n := 0
	x, y := valuesOf(a), valuesOf(b)
	for i := range x {
		if x[i] != y[i] {
			n++
		}
	}
	return n
}

// badEars are ears that are not valid, each for one reason.
func badEars() []api.Ear {
	return []api.Ear{
		{Tip: -1},
		{Tip: 5},
		{Tip: 1 << 62},
		{Tip: -1 << 63},
		{Upper: [4]int{-1}},
		{Upper: [4]int{0, 4}},
		{Upper: [4]int{0, 0, 0, 1 << 62}},
		{Lower: [4]int{4}},
		{Lower: [4]int{0, 0, -1 << 63}},
		{Lower: [4]int{0, 0, 0, -1}},
		{Upper: [4]int{1, 1}},
		{Upper: [4]int{0, 3, 1}},
		{Upper: [4]int{0, 0, 2, 2}},
		{Lower: [4]int{1, 3}},
		{Lower: [4]int{0, 1, 2}},
		{Lower: [4]int{0, 0, 3, 1}},
		{Tip: api.Slit, Upper: [4]int{1, 1}},
		{Tip: api.Hollowed, Upper: [4]int{0, 0, 0, 1}},
		{Tip: api.Hollowed, Lower: [4]int{0, 0, 0, 3}},
		{Tip: api.Cropped, Upper: [4]int{0, 0, 0, 3}},
		{Tip: api.Cropped, Lower: [4]int{0, 0, 0, 2}},
	}
}

// sample is the ear of the chapter's examples.
func sample() api.Ear {
	return api.Ear{Tip: api.Cropped, Upper: [4]int{0, api.Notch}, Lower: [4]int{0, 0, api.Key}, Holes: [3]bool{false, false, true}}
}

func lastEar() api.Ear {
	return api.Ear{
		Tip:   api.Cropped,
		Upper: [4]int{api.Key, 0, api.Key, 0},
		Lower: [4]int{api.Key, 0, api.Key, 0},
		Holes: [3]bool{true, true, true},
	}
}

// P1.1 to P1.5: no function accepts an ear that is not valid, and with the error every other result is zero.
func TestInvalidEars(t *testing.T) {
	for i, bad := range badEars() {
		for _, m := range []api.Mark{{Near: bad}, {Far: bad}, {Near: bad, Far: bad}} {
			if ear.CheckMark(m) != api.ErrEar {
				t.Error(i, "CheckMark")
			}
			if s, err := ear.PrintMark(m); s != "" || err != api.ErrEar {
				t.Error(i, "PrintMark", s, err)
			}
			if n, err := ear.MarkDistance(m, api.Mark{}); n != 0 || err != api.ErrEar {
				t.Error(i, "MarkDistance", n, err)
			}
			if n, err := ear.MarkDistance(api.Mark{Near: lastEar(), Far: lastEar()}, m); n != 0 || err != api.ErrEar {
				t.Error(i, "MarkDistance", n, err)
			}
		}
		if ear.Check(bad) != api.ErrEar {
			t.Error(i, "Check")
		}
		if n, err := ear.Code(bad); n != 0 || err != api.ErrEar {
			t.Error(i, "Code", n, err)
		}
		if e, is, err := ear.Next(bad); e != (api.Ear{}) || is || err != api.ErrEar {
			t.Error(i, "Next", e, is, err)
		}
		if l, err := ear.Features(bad); len(l) != 0 || err != api.ErrEar {
			t.Error(i, "Features", l, err)
		}
		if n, err := ear.Distance(bad, lastEar()); n != 0 || err != api.ErrEar {
			t.Error(i, "Distance", n, err)
		}
		if n, err := ear.Distance(lastEar(), bad); n != 0 || err != api.ErrEar {
			t.Error(i, "Distance", n, err)
		}
		if n, err := ear.Distance(bad, bad); n != 0 || err != api.ErrEar {
			t.Error(i, "Distance", n, err)
		}
		if l, err := ear.Neighbours(bad); len(l) != 0 || err != api.ErrEar {
			t.Error(i, "Neighbours", l, err)
		}
		if s, err := ear.Short(bad); s != "" || err != api.ErrEar {
			t.Error(i, "Short", s, err)
		}
		if s, err := ear.Words(bad); s != "" || err != api.ErrEar {
			t.Error(i, "Words", s, err)
		}
	}
}
