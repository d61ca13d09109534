package fell_test

import (
	"slices"
	"testing"

	"earmark/api"
	"earmark/fell"
)

const most, least = 1<<63 - 1, -1 << 63

// badFells are fells that are not valid.
func badFells() []api.Fell {
	var l []api.Fell
	for _, n := range []int{least, -1, 0, 17, 18, 1 << 16, 1<<32 + 2, most} {
		l = append(l, api.Fell{Grazings: n})
	}
	bad := []api.Gate{
		{A: -1, B: 1}, {A: least, B: 1}, {A: 1, B: 1}, {A: 2, B: 1}, {A: 0, B: 0}, {A: 0, B: 3}, {A: 2, B: 3}, {A: 3, B: 4}, {A: 0, B: most}, {A: 1 << 32, B: 1<<32 + 1}, {A: 0, B: -1},
		{A: 0, B: 1, From: -1}, {A: 0, B: 1, From: 360}, {A: 0, B: 1, From: least}, {A: 0, B: 1, From: most},
		{A: 0, B: 1, To: -1}, {A: 0, B: 1, To: 360}, {A: 0, B: 1, To: least}, {A: 0, B: 1, To: most}, {A: 0, B: 1, From: 360, To: 360},
	}
	good := api.Gate{A: 1, B: 2, From: 3, To: 4}
	for _, g := range bad {
		l = append(l, api.Fell{Grazings: 3, Gates: []api.Gate{g}}, api.Fell{Grazings: 3, Gates: []api.Gate{good, g}}, api.Fell{Grazings: 3, Gates: []api.Gate{good, g, good}})
	}
	many := api.Fell{Grazings: 3}
	for range api.MaxGates + 1 {
		many.Gates = append(many.Gates, good)
	}
	return append(l, many, api.Fell{Grazings: 1, Gates: []api.Gate{{A: 0, B: 1}}}, api.Fell{Gates: []api.Gate{good}})
}

// P4.1
func TestCheck(t *testing.T) {
	l := append(someFells(), smallFells()...)
	l = append(l,
		api.Fell{Grazings: 1, Gates: []api.Gate{}},
		api.Fell{Grazings: 2, Gates: []api.Gate{{A: 0, B: 1}}},
		api.Fell{Grazings: 16, Gates: []api.Gate{{A: 14, B: 15, From: 359, To: 359}, {A: 0, B: 1, From: 0, To: 359}, {A: 0, B: 15, From: 359, To: 0}}},
		thrown(new(dice), 16, api.MaxGates, 359),
	)
	for _, f := range l {
		if err := fell.Check(f); err != api.OK {
			t.Error(f, err)
		}
	}
	for _, f := range badFells() {
		if err := fell.Check(f); err != api.ErrFell {
			t.Error(f, err)
		}
	}
}

// P4.1: all days.
func TestYearDay(t *testing.T) {
	y := 0
	for day := range api.MaxDay + 1 {
		if got, err := fell.YearDay(day); got != y || err != api.OK {
			t.Fatal(day, got, err)
		}
		y++
		if y == 360 {
			y = 0
		}
	}
	for _, day := range badDays {
		if got, err := fell.YearDay(day); got != 0 || err != api.ErrArg {
			t.Error(day, got, err)
		}
	}
}

// P4.1: the first and the last days on which gates are open.
func TestOpenAtTheEnds(t *testing.T) {
	for _, x := range []struct {
		from, to   int
		open, shut []int
	}{
		{100, 200, []int{100, 101, 150, 199, 460, 559, 1048320 + 199}, []int{0, 99, 200, 359, 459, 560, 1048320 + 200}},
		{300, 20, []int{300, 359, 0, 19, 360, 379, 660, 1048320}, []int{20, 299, 380, 659, api.MaxDay}},
		{5, 5, nil, []int{0, 4, 5, 6, 359, 365}},
		{0, 0, nil, []int{0, 1, 359, 360}},
		{0, 359, []int{0, 1, 358, 360}, []int{359, 719}},
		{359, 0, []int{359, 719}, []int{0, 358, 360, 1}},
		{1, 0, []int{1, 2, 359, 361}, []int{0, 360, 720}},
		{0, 1, []int{0, 360}, []int{1, 359, 361}},
		{256, 257, []int{256, api.MaxDay}, []int{255, 257, api.MaxDay - 1}},
	} {
		f := api.Fell{Grazings: 3, Gates: []api.Gate{{A: 0, B: 1}, {A: 1, B: 2, From: x.from, To: x.to}}}
		for _, day := range x.open {
			if is, err := fell.Open(f, 1, day); !is || err != api.OK {
				t.Error(x, day, is, err)
			}
		}
		for _, day := range x.shut {
			if is, err := fell.Open(f, 1, day); is || err != api.OK {
				t.Error(x, day, is, err)
			}
		}
	}
}

// P4.1: all days of a year, each of them in another year.
func TestOpenPartsTogether(t *testing.T) {
	for n, f := range someFells() {
		r := tablesOf(f)
		kept := clone(f)
		for y := range api.YearDays {
			day := y + api.YearDays*((y*37+n)%2900)
			var open []int
			for i := range f.Gates {
				if r.open[i][y] {
					open = append(open, i)
				}
				if is, err := fell.Open(f, i, day); is != r.open[i][y] || err != api.OK {
					t.Fatal(f, i, day, is, err)
				}
			}
			if got, err := fell.OpenGates(f, day); !slices.Equal(got, open) || err != api.OK {
				t.Fatal(f, day, got, err)
			}
			if got, err := fell.Parts(f, day); !sameSets(got, classes(r.joins[y])) || err != api.OK {
				t.Fatal(f, day, got, err)
			}
			for a := range f.Grazings {
				b := (a*5 + y) % f.Grazings
				if is, err := fell.Together(f, a, b, day); is != r.joins[y][a][b] || err != api.OK {
					t.Fatal(f, a, b, day, is, err)
				}
			}
		}
		if !sameFell(f, kept) {
			t.Fatal("an argument has been changed")
		}
	}
}

// P4.1, examples
func TestDayExamples(t *testing.T) {
	f := exampleFell()
	for _, x := range []struct {
		day  int
		want []int
	}{{150, []int{0, 1}}, {10, []int{2}}, {375, []int{2}}, {20, nil}, {299, nil}, {160, []int{0}}} {
		if got, err := fell.OpenGates(f, x.day); !slices.Equal(got, x.want) || err != api.OK {
			t.Error(x, got, err)
		}
	}
	for _, x := range []struct {
		day  int
		want [][]int
	}{{150, [][]int{{0, 1, 2}, {3}}}, {120, [][]int{{0, 1}, {2}, {3}}}, {10, [][]int{{0}, {1, 2}, {3}}}, {5, [][]int{{0}, {1, 2}, {3}}}, {50, [][]int{{0}, {1}, {2}, {3}}}} {
		if got, err := fell.Parts(f, x.day); !sameSets(got, x.want) || err != api.OK {
			t.Error(x, got, err)
		}
	}
	for _, x := range []struct {
		a, b, day int
		want      bool
	}{{0, 2, 150, true}, {2, 0, 150, true}, {0, 2, 149, false}, {2, 3, 5, false}, {3, 3, 5, true}, {1, 2, 360, true}} {
		if got, err := fell.Together(f, x.a, x.b, x.day); got != x.want || err != api.OK {
			t.Error(x, got, err)
		}
	}
}
