package fell_test

import (
	"slices"
	"testing"

	"earmark/api"
	"earmark/fell"
)

// windows are spans of days: short ones, whole years, several years, and the last days of all.
var windows = [][2]int{
	{0, 0}, {0, 1}, {5, 40}, {100, 459}, {100, 460}, {359, 360}, {350, 1100}, {250, 250 + 3*360}, {7 * 360, 7*360 + 359},
	{api.MaxDay, api.MaxDay}, {api.MaxDay - 1, api.MaxDay}, {api.MaxDay - 359, api.MaxDay}, {api.MaxDay - 900, api.MaxDay},
}

// P4.2: by following sheep day after day.
func TestReachAndMeeting(t *testing.T) {
	found := map[bool]int{}
	for _, f := range someFells() {
		r := tablesOf(f)
		for n, w := range windows {
			for a := range f.Grazings {
				ends := r.ends(a, w[0], w[1])
				want := ends[len(ends)-1].list()
				if got, err := fell.Reach(f, a, w[0], w[1]); !slices.Equal(got, want) || err != api.OK {
					t.Fatal(f, a, w, got, err, want)
				}
				b := (a*3 + n) % f.Grazings
				day, x, ok := r.meeting(a, b, w[0], w[1])
				found[ok && a != b]++
				if gotDay, gotX, is, err := fell.Meeting(f, a, b, w[0], w[1]); gotDay != day || gotX != x || is != ok || err != api.OK {
					t.Fatal(f, a, b, w, gotDay, gotX, is, err, day, x, ok)
				}
			}
		}
	}
	if found[true] < 1000 || found[false] < 1000 {
		t.Error(found)
	}
}

// P4.2
func TestEarliest(t *testing.T) {
	found := map[bool]int{}
	for i, f := range someFells() {
		r := tablesOf(f)
		for _, from := range []int{0, 99, 359, 1000 + i, api.MaxDay - 5000, api.MaxDay - 700, api.MaxDay - 100, api.MaxDay} {
			for a := range f.Grazings {
				b := (a*3 + i + from) % f.Grazings
				day, ok := r.earliest(a, b, from)
				found[ok && a != b]++
				if got, is, err := fell.Earliest(f, a, b, from); got != day || is != ok || err != api.OK {
					t.Fatal(f, a, b, from, got, is, err, day, ok)
				}
				if got, is, err := fell.Earliest(f, a, a, from); got != from || !is || err != api.OK {
					t.Fatal(f, a, from, got, is, err)
				}
			}
		}
	}
	if found[true] < 500 || found[false] < 500 {
		t.Error(found)
	}
}

// P4.2: the last days on which gates can be passed, and the first ones after the last day of all.
func TestTheLastDays(t *testing.T) {
	for _, x := range []struct {
		from, to int
		ok       bool
	}{{256, 257, true}, {250, 300, true}, {257, 300, false}, {300, 256, false}, {300, 257, true}, {255, 256, false}, {0, 256, false}} {
		f := api.Fell{Grazings: 2, Gates: []api.Gate{{A: 0, B: 1, From: x.from, To: x.to}}}
		day, want, path := 0, []int{0}, []api.Pass(nil)
		if x.ok {
			day, want, path = api.MaxDay, []int{0, 1}, []api.Pass{{Day: api.MaxDay}}
		}
		if got, ok, err := fell.Earliest(f, 0, 1, api.MaxDay); got != day || ok != x.ok || err != api.OK {
			t.Error(x, got, ok, err)
		}
		if got, ok, err := fell.Path(f, 0, 1, api.MaxDay); !slices.Equal(got, path) || ok != x.ok || err != api.OK {
			t.Error(x, got, ok, err)
		}
		if got, err := fell.Reach(f, 0, api.MaxDay, api.MaxDay); !slices.Equal(got, want) || err != api.OK {
			t.Error(x, got, err)
		}
		if got, at, ok, err := fell.Meeting(f, 1, 0, api.MaxDay, api.MaxDay); got != day || at != 0 || ok != x.ok || err != api.OK {
			t.Error(x, got, at, ok, err)
		}
	}
}

// P4.2: as many years as a fell can need, and all days.
func TestSlowFell(t *testing.T) {
	f := slow()
	if day, ok, err := fell.Earliest(f, 0, 15, 0); day != 14*360+60 || !ok || err != api.OK {
		t.Error(day, ok, err)
	}
	if day, ok, err := fell.Earliest(f, 15, 0, 0); day != 200 || !ok || err != api.OK {
		t.Error(day, ok, err)
	}
	if day, ok, err := fell.Earliest(f, 0, 15, 201); day != 15*360+60 || !ok || err != api.OK {
		t.Error(day, ok, err)
	}
	l, ok, err := fell.Path(f, 0, 15, 201)
	if len(l) != 15 || !ok || err != api.OK {
		t.Fatal(l, ok, err)
	}
	for i, p := range l {
		if p != (api.Pass{Day: 360 + 200 + i*350, Gate: i}) {
			t.Error(i, p)
		}
	}
	for _, f := range append(someFells(), thrown(new(dice), 16, 32, 2)) {
		for a := range f.Grazings {
			ever, _ := fell.Ever(f, a)
			if got, err := fell.Reach(f, a, 0, api.MaxDay); !slices.Equal(got, ever) || err != api.OK {
				t.Error(f, a, got, err)
			}
		}
	}
}

// P4.2, examples
func TestWalkExamples(t *testing.T) {
	f := exampleFell()
	for _, x := range []struct {
		from, to int
		want     []int
	}{{0, 120, []int{0, 1}}, {0, 150, []int{0, 1, 2}}, {200, 300, []int{0}}, {199, 300, []int{0, 1, 2}}, {0, 99, []int{0}}, {0, 100, []int{0, 1}}, {0, 149, []int{0, 1}}} {
		if got, err := fell.Reach(f, 0, x.from, x.to); !slices.Equal(got, x.want) || err != api.OK {
			t.Error(x, got, err)
		}
	}
	for _, x := range []struct {
		a, b, from, day int
		ok              bool
	}{{0, 2, 0, 150, true}, {0, 2, 170, 300, true}, {0, 3, 0, 0, false}, {3, 0, 0, 0, false}, {2, 0, 0, 100, true}, {0, 2, 300, 510, true}, {0, 1, 250, 460, true}} {
		if day, ok, err := fell.Earliest(f, x.a, x.b, x.from); day != x.day || ok != x.ok || err != api.OK {
			t.Error(x, day, ok, err)
		}
	}
	for _, x := range []struct {
		a, b, from, to, day, at int
		ok                      bool
	}{{0, 2, 0, 90, 0, 0, false}, {0, 2, 0, 120, 100, 0, true}, {0, 2, 120, 140, 0, 0, false}, {0, 2, 120, 160, 150, 0, true}, {0, 3, 0, 9999, 0, 0, false}, {1, 2, 0, 0, 0, 1, true}, {2, 2, 10, 10, 10, 1, true}, {2, 2, 30, 40, 30, 2, true}} {
		if day, at, ok, err := fell.Meeting(f, x.a, x.b, x.from, x.to); day != x.day || at != x.at || ok != x.ok || err != api.OK {
			t.Error(x, day, at, ok, err)
		}
	}
	two := api.Fell{Grazings: 2, Gates: []api.Gate{{A: 0, B: 1, From: 100, To: 200}}}
	if day, ok, err := fell.Earliest(two, 0, 1, 250); day != 460 || !ok || err != api.OK {
		t.Error(day, ok, err)
	}
}

// P4.6: a walk goes on from where it can be at the end of any day in between.
func TestWalksCompose(t *testing.T) {
	for i, f := range smallFells() {
		a := i % f.Grazings
		from := 37 * i % 720
		to := from + 20 + 31*i%400
		var before []int
		for day := from; day <= to; day += 1 + i%3 {
			there, err := fell.Reach(f, a, from, day)
			if err != api.OK || !isWithin(before, there) {
				t.Fatal(f, a, from, day, before, there, err)
			}
			before = there
			if day == to {
				continue
			}
			var onward []int
			for _, x := range there {
				l, _ := fell.Reach(f, x, day+1, to)
				onward = append(onward, l...)
			}
			slices.Sort(onward)
			whole, _ := fell.Reach(f, a, from, to)
			if got := slices.Compact(onward); !slices.Equal(got, whole) {
				t.Fatal(f, a, from, day, to, got, whole)
			}
		}
	}
}

func isWithin(a, b []int) bool {
	return !slices.ContainsFunc(a, func(x int) bool { return !slices.Contains(b, x) })
}

// P4.6: years later all is the same, as long as there are days.
func TestYearsLater(t *testing.T) {
	for i, f := range smallFells() {
		for _, years := range []int{1, 2, 2890, 2912 - i%3} {
			later := years * api.YearDays
			a, b := i%f.Grazings, (i/2+1)%f.Grazings
			from, to := (29*i)%200, 200+i%56
			x, _ := fell.Reach(f, a, from, to)
			if y, err := fell.Reach(f, a, from+later, to+later); !slices.Equal(x, y) || err != api.OK {
				t.Fatal(f, a, from, to, later, x, y, err)
			}
			day, at, ok, _ := fell.Meeting(f, a, b, from, to)
			day2, at2, ok2, err := fell.Meeting(f, a, b, from+later, to+later)
			if at2 != at || ok2 != ok || ok && day2 != day+later || err != api.OK {
				t.Fatal(f, a, b, from, to, later, day, day2, at, at2, ok, ok2, err)
			}
			day, ok, _ = fell.Earliest(f, a, b, from)
			l, _, _ := fell.Path(f, a, b, from)
			if ok && day+later > api.MaxDay {
				day, ok, l = 0, false, nil
			} else if ok {
				day += later
			}
			for n := range l {
				l[n].Day += later
			}
			if got, is, err := fell.Earliest(f, a, b, from+later); got != day || is != ok || err != api.OK {
				t.Fatal(f, a, b, from, later, got, is, err, day, ok)
			}
			if got, is, err := fell.Path(f, a, b, from+later); !slices.Equal(got, l) || is != ok || err != api.OK {
				t.Fatal(f, a, b, from, later, got, is, err, l, ok)
			}
		}
	}
}

// P4.8: 16 years are enough for all that can ever happen.
func TestInTheLongRun(t *testing.T) {
	for i, f := range someFells() {
		for a := range f.Grazings {
			from := (a*100 + i) % 800
			ever, err := fell.Ever(f, a)
			if err != api.OK {
				t.Fatal(f, a, err)
			}
			for _, to := range []int{from + days16 - 1, from + days16, from + 100*api.YearDays} {
				if got, _ := fell.Reach(f, a, from, to); !slices.Equal(got, ever) {
					t.Fatal(f, a, from, to, got, ever)
				}
			}
			for b := range f.Grazings {
				day, at, ok, err := fell.Meeting(f, a, b, from, from+days16)
				if ok != slices.Contains(ever, b) || err != api.OK {
					t.Fatal(f, a, b, from, ok, ever, err)
				}
				if day2, at2, ok2, _ := fell.Meeting(f, b, a, from, from+days16); day2 != day || at2 != at || ok2 != ok {
					t.Fatal(f, a, b, from, day, day2, at, at2, ok, ok2)
				}
				if first, is, _ := fell.Earliest(f, a, b, from); is != ok || day > first {
					t.Fatal(f, a, b, from, day, first, is)
				}
			}
		}
	}
}
