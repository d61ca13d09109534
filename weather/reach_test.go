package weather_test

import (
	"slices"
	"testing"

	"earmark/api"
	"earmark/ear"
	"earmark/weather"
)

// P2.3
func TestClosureAndOrigins(t *testing.T) {
	w := all()
	for _, e := range append(rich(), every(331)...) {
		for k := range 5 {
			if got, err := weather.Closure(e, k); !slices.Equal(got, listOf(within(codeOf(e), k, w.next))) || err != api.OK {
				t.Fatal(e, k, len(got), err)
			}
		}
		for k := range 4 {
			if got, err := weather.Origins(e, k); !slices.Equal(got, listOf(within(codeOf(e), k, w.before))) || err != api.OK {
				t.Fatal(e, k, len(got), err)
			}
		}
	}
	for _, e := range rich() {
		if got, err := weather.Origins(e, 4); !slices.Equal(got, listOf(within(codeOf(e), 4, w.before))) || err != api.OK {
			t.Fatal(e, len(got), err)
		}
	}
}

// P2.3, examples: with the Tips Whole, Slit and Cropped.
func TestClosureOfASlitEar(t *testing.T) {
	want := []api.Ear{words("whole"), words("slit"), words("cropped")}
	for k := 1; k <= 4; k++ {
		if got, err := weather.Closure(words("slit"), k); !slices.Equal(got, want) || err != api.OK {
			t.Error(k, got, err)
		}
	}
	if got, err := weather.Closure(words("slit"), 0); !slices.Equal(got, want[1:2]) || err != api.OK {
		t.Error(got, err)
	}
	if got, err := weather.Origins(words("slit"), 0); !slices.Equal(got, want[1:2]) || err != api.OK {
		t.Error(got, err)
	}
	if l, err := weather.Closure(words("upper notch 1, hole 1"), 5); len(l) != 0 || err != api.ErrArg {
		t.Error(l, err)
	}
}

// P2.10: f is in Closure(e, k) exactly if e is in Origins(f, k), and exactly if Distance finds a length; with k = 1, e itself aside, these are Next and Before.
func TestThereAndBack(t *testing.T) {
	for _, e := range rich() {
		for k := range 5 {
			l, _ := weather.Closure(e, k)
			for i := 0; i < len(l); i += 1 + len(l)/40 {
				origins, _ := weather.Origins(l[i], min(k, 3))
				n, ok, err := weather.Distance(e, l[i], k)
				if slices.Contains(origins, e) != (n <= 3) || !ok || n > k || err != api.OK {
					t.Fatal(e, l[i], k, n, ok, err)
				}
			}
			l, _ = weather.Origins(e, min(k, 3))
			for i := 0; i < len(l); i += 1 + len(l)/40 {
				closure, _ := weather.Closure(l[i], k)
				n, ok, err := weather.Distance(l[i], e, k)
				if !slices.Contains(closure, e) || !ok || n > k || err != api.OK {
					t.Fatal(e, l[i], k, n, ok, err)
				}
			}
		}
	}
	isE := func(e api.Ear) func(api.Ear) bool { return func(x api.Ear) bool { return x == e } }
	for _, e := range append(rich(), every(101)...) {
		next, _ := weather.Next(e)
		closure, _ := weather.Closure(e, 1)
		if !slices.Contains(closure, e) || !slices.Equal(slices.DeleteFunc(closure, isE(e)), next) {
			t.Fatal(e, next)
		}
		before, _ := weather.Before(e)
		origins, _ := weather.Origins(e, 1)
		if !slices.Contains(origins, e) || !slices.Equal(slices.DeleteFunc(origins, isE(e)), before) {
			t.Fatal(e, before)
		}
	}
}

// P2.9: the closure for k + l is that for l of the ears of that for k; so are the origins.
func TestComposition(t *testing.T) {
	for _, e := range append(rich(), every(4001)...) {
		for _, around := range []func(api.Ear, int) ([]api.Ear, api.Errno){weather.Closure, weather.Origins} {
			for k := range 3 {
				for l := range 4 - k {
					want, _ := around(e, k+l)
					middle, _ := around(e, k)
					var got []api.Ear
					for _, x := range middle {
						more, _ := around(x, l)
						got = append(got, more...)
					}
					slices.SortFunc(got, ear.Compare)
					if !slices.Equal(slices.Compact(got), want) {
						t.Fatal(e, k, l)
					}
				}
			}
		}
	}
}

// P2.4: the least ear of both closures, whichever ear comes first.
func TestMeet(t *testing.T) {
	w := all()
	l := append(rich(), every(2801)...)
	l = append(l, words("whole"), words("upper notch 1"), words("slit, upper notch 1"), words("lower bit 1, hole 2"), words("hole 2"))
	met := 0
	for _, e := range l {
		for _, f := range l {
			for k := range 5 {
				other := within(codeOf(f), k, w.next)
				both := within(codeOf(e), k, w.next)
				for n := range both {
					if _, ok := other[n]; !ok {
						delete(both, n)
					}
				}
				var want api.Ear
				if len(both) > 0 {
					want = listOf(both)[0]
					met++
				}
				if got, ok, err := weather.Meet(e, f, k); got != want || ok != (len(both) > 0) || err != api.OK {
					t.Fatal(e, f, k, got, ok, err)
				}
			}
		}
	}
	if met == 0 || met == 5*len(l)*len(l) {
		t.Error(met)
	}
}

// P2.4, examples
func TestMeetExamples(t *testing.T) {
	if got, ok, err := weather.Meet(words("whole"), words("upper notch 1"), 1); got != words("whole") || !ok || err != api.OK {
		t.Error(got, ok, err)
	}
	if got, ok, err := weather.Meet(words("whole"), words("upper notch 1"), 0); got != words("whole") || ok || err != api.OK {
		t.Error(got, ok, err)
	}
	if got, ok, err := weather.Meet(words("forked"), words("hollowed"), 1); got != words("cropped") || !ok || err != api.OK {
		t.Error(got, ok, err)
	}
	if got, ok, err := weather.Meet(words("upper key 0"), words("upper bit 0"), 4); got != words("whole") || ok || err != api.OK {
		t.Error(got, ok, err)
	}
}

// P2.14
func TestMirroredClosures(t *testing.T) {
	for _, e := range append(rich(), every(501)...) {
		for k := range 4 {
			for _, around := range []func(api.Ear, int) ([]api.Ear, api.Errno){weather.Closure, weather.Origins} {
				l, _ := around(e, k)
				if got, err := around(ear.Mirror(e), k); !slices.Equal(got, mirrored(l)) || err != api.OK {
					t.Fatal(e, k, err)
				}
			}
		}
	}
}
