package weather_test

import (
	"slices"
	"testing"

	"earmark/api"
	"earmark/ear"
	"earmark/weather"
)

// leastWays returns, for all ears to which at most k steps lead from e, the least sequence that leads there: it goes through all sequences in their order, and keeps the first one to each ear.
func leastWays(e api.Ear, k int) map[int][]int {
	w := all()
	type trail struct {
		at  int
		way []int
	}
	ways := map[int][]int{codeOf(e): {}}
	trails := []trail{{at: codeOf(e)}}
	for range k {
		var longer []trail
		for _, t := range trails {
			for i, x := range w.made[t.at] {
				if x < 0 {
					continue
				}
				way := append(slices.Clone(t.way), i)
				longer = append(longer, trail{x, way})
				if _, ok := ways[x]; !ok {
					ways[x] = way
				}
			}
		}
		trails = longer
	}
	return ways
}

func stepsOf(way []int) []api.Step {
	var l []api.Step
	for _, i := range way {
		l = append(l, steps[i])
	}
	return l
}

// P2.4 and P2.11: Way is the least of all sequences, and Distance its length.
func TestWayAndDistance(t *testing.T) {
	for _, e := range append(rich(), every(8009)...) {
		for n, way := range leastWays(e, 4) {
			f := all().ears[n]
			for k := range 5 {
				got, ok, err := weather.Way(e, f, k)
				length, found, err2 := weather.Distance(e, f, k)
				if err != api.OK || err2 != api.OK || ok != (len(way) <= k) || found != ok {
					t.Fatal(e, f, k, got, ok, err)
				}
				if ok && (!slices.Equal(got, stepsOf(way)) || length != len(way)) || !ok && (len(got) != 0 || length != 0) {
					t.Fatal(e, f, k, got, length, stepsOf(way))
				}
			}
			if x, _, err := weather.ApplyAll(e, stepsOf(way)); x != f || err != api.OK {
				t.Fatal(e, f, x, err)
			}
		}
	}
}

// P2.4: to no other ears do steps lead.
func TestNoWay(t *testing.T) {
	w := all()
	for _, e := range append(rich(), every(9001)...) {
		reached := within(codeOf(e), 4, w.next)
		for n := 0; n < len(w.ears); n += 23 {
			if _, ok := reached[n]; ok {
				continue
			}
			if l, ok, err := weather.Way(e, w.ears[n], 4); len(l) != 0 || ok || err != api.OK {
				t.Fatal(e, w.ears[n], l, ok, err)
			}
			if length, ok, err := weather.Distance(e, w.ears[n], 4); length != 0 || ok || err != api.OK {
				t.Fatal(e, w.ears[n], length, ok, err)
			}
		}
	}
}

// P2.4, examples
func TestWayExamples(t *testing.T) {
	for _, c := range []struct {
		from, to string
		k        int
		want     []string
		ok       bool
	}{
		{"slit", "cropped", 4, []string{"frost"}, true},
		{"slit", "cropped", 0, nil, false},
		{"cropped", "slit", 4, nil, false},
		{"cropped", "cropped", 0, nil, true},
		{"slit", "slit", 4, nil, true},
		{"upper key 0, hole 0", "upper key 0", 1, []string{"tear upper 0"}, true},
		{"slit, lower notch 3", "whole", 4, []string{"heal", "shut lower 3"}, true},
		{"slit, lower notch 3", "cropped", 4, []string{"frost"}, true},
		{"hole 0, hole 1, hole 2", "whole", 4, []string{"close 0", "close 1", "close 2"}, true},
		{"hole 0, hole 1, hole 2", "whole", 2, nil, false},
		{"hole 0, hole 2", "upper key 1", 4, []string{"tear upper 0", "tear upper 2", "run upper 0"}, true},
		{"hole 0, hole 2, upper notch 2", "lower key 1, upper notch 2", 4, []string{"tear lower 0", "tear lower 2", "run lower 0"}, true},
		{"upper notch 0, upper notch 2", "upper key 1", 4, []string{"run upper 0"}, true},
		{"upper notch 0, lower notch 0", "upper bit 0, lower bit 0", 4, []string{"wear upper 0", "wear lower 0"}, true},
	} {
		l, ok, err := weather.Way(words(c.from), words(c.to), c.k)
		var got []string
		for _, s := range l {
			text, _ := weather.Print(s)
			got = append(got, text)
		}
		if !slices.Equal(got, c.want) || ok != c.ok || err != api.OK {
			t.Error(c, got, ok, err)
		}
	}
}

// P2.11: the triangle inequality.
func TestTriangle(t *testing.T) {
	for _, e := range rich() {
		closure, _ := weather.Closure(e, 2)
		for _, f := range closure {
			x, _, _ := weather.Distance(e, f, 4)
			more, _ := weather.Closure(f, 2)
			for _, g := range more {
				y, _, _ := weather.Distance(f, g, 4)
				if z, ok, err := weather.Distance(e, g, 4); !ok || z > x+y || err != api.OK {
					t.Fatal(e, f, g, x, y, z, ok, err)
				}
			}
		}
	}
}

// P2.14
func TestMirroredDistances(t *testing.T) {
	for _, e := range rich() {
		l, _ := weather.Closure(e, 4)
		l = append(l, every(997)...)
		for _, f := range l {
			for _, k := range []int{1, 4} {
				x, is, _ := weather.Distance(e, f, k)
				if y, ok, err := weather.Distance(ear.Mirror(e), ear.Mirror(f), k); x != y || is != ok || err != api.OK {
					t.Fatal(e, f, k, x, y, is, ok, err)
				}
			}
		}
	}
}
