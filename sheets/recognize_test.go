package sheets_test

import (
	"math/rand"
	"testing"

	"earmark/api"
	"earmark/sheets"
	"earmark/weather"
)

func seen(day int, h api.Head) api.Sighting { return api.Sighting{Day: day, Head: h} }

// aged returns what some steps of weather can have made of m.
func aged(r *rand.Rand, m api.Mark, steps int) api.Mark {
	for range steps {
		if l, _ := weather.Next(m.Near); len(l) > 0 && r.Intn(2) == 0 {
			m.Near = l[r.Intn(len(l))]
		} else if l, _ := weather.Next(m.Far); len(l) > 0 {
			m.Far = l[r.Intn(len(l))]
		}
	}
	return m
}

// randomSighting returns a sighting, in a year or the one after it, of a sheep whose mark has been m, a few steps ago. So one of a later year can often be the same sheep.
func randomSighting(r *rand.Rand, m api.Mark, year, steps int) api.Sighting {
	sex := 0
	if r.Intn(4) == 0 {
		sex = 1 + r.Intn(2)
	}
	return api.Sighting{
		Key: api.Sheetkey{Gathering: r.Intn(9)}, Grazing: r.Intn(16), Index: r.Intn(64),
		Day: 360*year + 180*r.Intn(4), Head: headOf(sex, year+r.Intn(3), r.Intn(64), aged(r, m, r.Intn(steps+1))),
	}
}

// P6.5, against the plain reading; with more steps more is possible.
func TestMayBe(t *testing.T) {
	r := rand.New(rand.NewSource(70))
	yes := [5]int{}
	for range 3000 {
		m := randomMark(r)
		a, b := randomSighting(r, m, 1, 1), randomSighting(r, m, 1+r.Intn(2), 3)
		before := false
		for k := range 5 {
			is, err := sheets.MayBe(a, b, k)
			if is != mayBe(a, b, k) || err != api.OK {
				t.Fatal(a, b, k, is, err)
			}
			if before && !is {
				t.Fatal("fewer with more steps", a, b, k)
			}
			if is {
				yes[k]++
			}
			before = is
		}
	}
	if yes[0] < 50 || yes[1] < yes[0]+20 || yes[2] < yes[1]+20 || yes[3] < yes[2]+20 {
		t.Error(yes)
	}
}

// P6.5: a sheep may be itself on the same day.
func TestMayBeItself(t *testing.T) {
	r := rand.New(rand.NewSource(71))
	for range 500 {
		a := seen(r.Intn(api.MaxDay+1), randomHead(r))
		for k := range 5 {
			if is, err := sheets.MayBe(a, a, k); !is || err != api.OK {
				t.Fatal(a, k, is, err)
			}
		}
	}
}

// P6.5: sexes.
func TestMayBeSexes(t *testing.T) {
	for a := range 3 {
		for b := range 3 {
			want := a == b || a == 1 && b == 2
			for _, day := range []int{0, 500} {
				if is, err := sheets.MayBe(seen(0, headOf(a, 0, 0, whole)), seen(day, headOf(b, 0, 0, whole)), 2); is != want || err != api.OK {
					t.Error(a, b, is, err)
				}
			}
		}
	}
}

// P6.5: the last day of a year and the first one of the next, and the days before.
func TestMayBeTeeth(t *testing.T) {
	for _, from := range []int{0, 1, 359, 360, 1000} {
		for _, days := range []int{0, 1, 358, 359, 360, 361, 719, 720, 1079, 1080, 1439, 1440, 100000} {
			for a := range 5 {
				for b := range 5 {
					want := b >= a && b <= a+1+days/360
					is, err := sheets.MayBe(seen(from, headOf(0, a, 0, whole)), seen(from+days, headOf(0, b, 0, whole)), 0)
					if is != want || err != api.OK {
						t.Error(from, days, a, b, is, err)
					}
					if is, err := sheets.MayBe(seen(from+days+1, headOf(0, a, 0, whole)), seen(from, headOf(0, b, 0, whole)), 0); is || err != api.OK {
						t.Error(from, days, a, b, is, err)
					}
				}
			}
		}
	}
	if is, err := sheets.MayBe(seen(0, headOf(0, 0, 0, whole)), seen(api.MaxDay, headOf(0, 4, 0, whole)), 0); !is || err != api.OK {
		t.Error(is, err)
	}
}

// P6.5: the steps on both ears count together; paint, and where it was seen, do not count.
func TestMayBeMarks(t *testing.T) {
	both := api.Mark{Near: notched.Near, Far: notched.Near}
	wild := api.Sighting{Key: api.Sheetkey{Gathering: -5, Clerk: most, Part: least}, Grazing: 99, Index: -1, Day: 3, Head: headOf(0, 0, 63, whole)}
	for _, x := range []struct {
		a, b api.Sighting
		k    int
		want bool
	}{
		{seen(0, headOf(0, 0, 0, notched)), seen(0, headOf(0, 0, 0, whole)), 0, false},
		{seen(0, headOf(0, 0, 0, notched)), seen(0, headOf(0, 0, 0, whole)), 1, true},
		{seen(0, headOf(0, 0, 0, whole)), seen(0, headOf(0, 0, 0, notched)), 4, false},
		{seen(0, headOf(0, 0, 0, both)), seen(0, headOf(0, 0, 0, whole)), 1, false},
		{seen(0, headOf(0, 0, 0, both)), seen(0, headOf(0, 0, 0, whole)), 2, true},
		{seen(0, headOf(0, 0, 0, both)), seen(0, headOf(0, 0, 0, api.Mark{Near: bitten.Near})), 2, true},
		{seen(0, headOf(0, 0, 0, whole)), seen(0, headOf(0, 0, 63, whole)), 0, true},
		{seen(0, headOf(0, 0, 7, whole)), wild, 0, true},
		{wild, seen(3, headOf(0, 0, 0, whole)), 0, true},
		{wild, wild, 0, true},
	} {
		if is, err := sheets.MayBe(x.a, x.b, x.k); is != x.want || err != api.OK {
			t.Error(x, is, err)
		}
	}
}

// bad is a sighting that is not acceptable, with its error.
type bad struct {
	x    api.Sighting
	want api.Errno
}

func badSightings() []bad {
	var l []bad
	for _, h := range badHeads() {
		l = append(l, bad{seen(0, h), api.ErrHead}, bad{seen(-1, h), api.ErrHead}, bad{seen(most, h), api.ErrHead})
	}
	for _, day := range []int{least, -1, 1048577, most} {
		l = append(l, bad{seen(day, headOf(0, 0, 0, whole)), api.ErrArg})
	}
	return l
}

// P6.5: the errors, in their order.
func TestMayBeErrors(t *testing.T) {
	good := seen(5, headOf(0, 0, 0, whole))
	check := func(a, b api.Sighting, k int, want api.Errno) {
		t.Helper()
		if is, err := sheets.MayBe(a, b, k); is || err != want {
			t.Error(a, b, k, is, err, want)
		}
	}
	for _, x := range badSightings() {
		for _, k := range []int{0, 4, 5, -1} {
			check(x.x, good, k, x.want)
			check(good, x.x, k, x.want)
			for _, y := range badSightings() {
				check(x.x, y.x, k, x.want)
			}
		}
	}
	for _, k := range []int{least, -1, 5, most} {
		check(good, good, k, api.ErrArg)
		check(good, seen(1, headOf(1, 0, 0, whole)), k, api.ErrArg)
	}
}
