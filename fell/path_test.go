package fell_test

import (
	"cmp"
	"slices"
	"testing"

	"earmark/api"
	"earmark/fell"
)

// P4.2 and P4.7: the first path that one finds by going back day by day; CheckPath accepts it, up to the day on which it ends.
func TestPath(t *testing.T) {
	lengths := map[int]int{}
	for i, f := range someFells() {
		r := tablesOf(f)
		for n, from := range []int{0, 130, 359, 1000 + i, api.MaxDay - 400} {
			for a := range f.Grazings {
				b := (a*3 + i + n) % f.Grazings
				var want []api.Pass
				day, ok := r.earliest(a, b, from)
				if ok {
					want, _ = r.path(a, b, from, day)
					lengths[len(want)]++
				}
				got, is, err := fell.Path(f, a, b, from)
				if !slices.Equal(got, want) || is != ok || err != api.OK {
					t.Fatal(f, a, b, from, got, is, err, want, ok)
				}
				if !ok {
					continue
				}
				if err := fell.CheckPath(f, a, b, from, day, got); err != api.OK {
					t.Fatal(f, a, b, from, day, got, err)
				}
				if day > from {
					if err := fell.CheckPath(f, a, b, from, day-1, got); err != api.ErrPath {
						t.Fatal(f, a, b, from, day, got, err)
					}
				}
			}
		}
	}
	if lengths[0] < 20 || lengths[1] < 100 || lengths[2] < 100 || lengths[3] < 20 || lengths[4] < 5 {
		t.Error(lengths)
	}
}

func comparePaths(a, b []api.Pass) int {
	if c := cmp.Compare(len(a), len(b)); c != 0 {
		return c
	}
	return slices.CompareFunc(a, b, func(p, q api.Pass) int {
		return cmp.Or(cmp.Compare(p.Day, q.Day), cmp.Compare(p.Gate, q.Gate))
	})
}

// passes are sequences of up to three passes, also of gates and on days that do not exist.
func passes(from, to, gates int) [][]api.Pass {
	l := [][]api.Pass{nil}
	for n := 0; n < len(l) && len(l[n]) < 3; n++ {
		for day := from; day <= to; day++ {
			for gate := -1; gate <= gates; gate++ {
				l = append(l, append(slices.Clone(l[n]), api.Pass{Day: day, Gate: gate}))
			}
		}
	}
	return l
}

// tinyFells have much to choose from on the first days.
func tinyFells() []api.Fell {
	return []api.Fell{
		{Grazings: 3, Gates: []api.Gate{{A: 0, B: 1, From: 1, To: 3}, {A: 1, B: 2, From: 2, To: 4}, {A: 0, B: 1, From: 3, To: 2}}},
		{Grazings: 3, Gates: []api.Gate{{A: 0, B: 2, From: 3, To: 9}, {A: 0, B: 1, From: 0, To: 359}, {A: 1, B: 2, From: 3, To: 3}}},
		{Grazings: 2, Gates: []api.Gate{{A: 0, B: 1, From: 2, To: 3}, {A: 0, B: 1, From: 350, To: 2}, {A: 0, B: 1, From: 3, To: 4}}},
		{Grazings: 4, Gates: []api.Gate{{A: 2, B: 3, From: 3, To: 4}, {A: 1, B: 2, From: 1, To: 2}, {A: 0, B: 1, From: 359, To: 3}}},
		{Grazings: 4, Gates: []api.Gate{{A: 0, B: 1, From: 1, To: 5}, {A: 0, B: 2, From: 1, To: 5}, {A: 1, B: 3, From: 2, To: 5}}},
		{Grazings: 1},
	}
}

// P4.2 and P4.7: all short sequences of passes. None that is accepted ends before the earliest day, and none on the same days comes before Path.
func TestCheckPath(t *testing.T) {
	const from = 361
	accepted := 0
	for _, f := range tinyFells() {
		r := tablesOf(f)
		all := passes(from-1, from+3, len(f.Gates))
		for a := range f.Grazings {
			for b := range f.Grazings {
				first, ok, _ := fell.Earliest(f, a, b, from)
				path, _, _ := fell.Path(f, a, b, from)
				for to := from; to < from+3; to++ {
					var paths [][]api.Pass
					for _, l := range all {
						want := api.ErrPath
						if r.isPath(a, b, from, to, l) {
							want = api.OK
							paths = append(paths, l)
						}
						if err := fell.CheckPath(f, a, b, from, to, l); err != want {
							t.Fatal(f, a, b, to, l, err)
						}
					}
					accepted += len(paths)
					if len(paths) > 0 && (!ok || to < first) {
						t.Fatal(f, a, b, to, first, ok, paths)
					}
					if to != first {
						continue
					}
					if got := slices.MinFunc(paths, comparePaths); !slices.Equal(got, path) {
						t.Fatal(f, a, b, to, got, path)
					}
				}
			}
		}
	}
	if accepted < 300 {
		t.Error(accepted)
	}
}

// P4.2: long paths, and what makes them wrong.
func TestCheckLongPath(t *testing.T) {
	f := exampleFell()
	var l []api.Pass
	for i := range 10001 {
		l = append(l, api.Pass{Day: 100 + i/100})
	}
	l = append(l, api.Pass{Day: 300, Gate: 2}, api.Pass{Day: 375, Gate: 2}, api.Pass{Day: 375, Gate: 2})
	kept := slices.Clone(l)
	if err := fell.CheckPath(f, 0, 2, 100, 375, l[:10001]); err != api.ErrPath {
		t.Error(err)
	}
	l[10000].Day = 199
	if err := fell.CheckPath(f, 0, 2, 100, 375, l); err != api.OK {
		t.Error(err)
	}
	for _, x := range []struct{ a, b, from, to int }{{1, 2, 100, 375}, {0, 1, 100, 375}, {0, 3, 100, 375}, {0, 2, 101, 375}, {0, 2, 100, 374}} {
		if err := fell.CheckPath(f, x.a, x.b, x.from, x.to, l); err != api.ErrPath {
			t.Error(x, err)
		}
	}
	for _, p := range []api.Pass{{Day: 100, Gate: -1}, {Day: 100, Gate: 4}, {Day: 100, Gate: most}, {Day: 100, Gate: least}, {Day: -1}, {Day: least}, {Day: most}, {Day: 99}, {Day: 102}, {Day: 150, Gate: 1}, {Day: 101, Gate: 2}, {Day: 105, Gate: 3}} {
		wrong := slices.Clone(l)
		wrong[150] = p
		if err := fell.CheckPath(f, 0, 2, 100, 375, wrong); err != api.ErrPath {
			t.Error(p, err)
		}
	}
	l[10000].Day = kept[10000].Day
	if !slices.Equal(l, kept) {
		t.Error("an argument has been changed")
	}
	for _, none := range [][]api.Pass{nil, {}} {
		if err := fell.CheckPath(f, 3, 3, 5, 5, none); err != api.OK {
			t.Error(err)
		}
		if err := fell.CheckPath(f, 0, 1, 100, 100, none); err != api.ErrPath {
			t.Error(err)
		}
	}
}

// P4.2: fewer passes first, then earlier days, then lesser gates.
func TestOrderOfPaths(t *testing.T) {
	for _, x := range []struct {
		gates []api.Gate
		want  []api.Pass
	}{
		// Two gates on the first days, or one on the last one.
		{[]api.Gate{{A: 0, B: 2, From: 9, To: 10}, {A: 2, B: 3, From: 9, To: 10}, {A: 0, B: 3, From: 9, To: 20}}, []api.Pass{{Day: 9, Gate: 2}}},
		{[]api.Gate{{A: 0, B: 1, From: 3, To: 4}, {A: 1, B: 2, From: 5, To: 6}, {A: 2, B: 3, From: 7, To: 8}, {A: 0, B: 2, From: 6, To: 7}}, []api.Pass{{Day: 6, Gate: 3}, {Day: 7, Gate: 2}}},
		// A lesser gate on a later day.
		{[]api.Gate{{A: 0, B: 1, From: 4, To: 9}, {A: 0, B: 2, From: 3, To: 9}, {A: 1, B: 3, From: 8, To: 9}, {A: 2, B: 3, From: 8, To: 9}}, []api.Pass{{Day: 3, Gate: 1}, {Day: 8, Gate: 3}}},
		{[]api.Gate{{A: 0, B: 1, From: 3, To: 9}, {A: 0, B: 2, From: 3, To: 9}, {A: 2, B: 3, From: 8, To: 9}, {A: 1, B: 3, From: 8, To: 9}}, []api.Pass{{Day: 3, Gate: 0}, {Day: 8, Gate: 3}}},
		// A first pass that is too late for the second one until the next year.
		{[]api.Gate{{A: 0, B: 1, From: 6, To: 7}, {A: 1, B: 3, From: 5, To: 6}, {A: 0, B: 2, From: 7, To: 8}, {A: 2, B: 3, From: 100, To: 101}}, []api.Pass{{Day: 7, Gate: 2}, {Day: 100, Gate: 3}}},
		// A gate that has shut when sheep arrive, and opens again before the end.
		{[]api.Gate{{A: 1, B: 3, From: 50, To: 4}, {A: 0, B: 1, From: 4, To: 60}}, []api.Pass{{Day: 4, Gate: 1}, {Day: 50, Gate: 0}}},
		// A gate that is open on a single day of a year, on the day before the one of the gate that leads there.
		{[]api.Gate{{A: 0, B: 1, From: 10, To: 11}, {A: 1, B: 3, From: 9, To: 10}}, []api.Pass{{Day: 10, Gate: 0}, {Day: 369, Gate: 1}}},
		{[]api.Gate{{A: 0, B: 3, From: 5, To: 5}}, nil},
	} {
		f := api.Fell{Grazings: 4, Gates: x.gates}
		if got, ok, err := fell.Path(f, 0, 3, 1); !slices.Equal(got, x.want) || ok != (x.want != nil) || err != api.OK {
			t.Error(x, got, ok, err)
		}
	}
	f := exampleFell()
	for _, x := range []struct {
		a, b, from int
		want       []api.Pass
		ok         bool
	}{
		{0, 2, 0, []api.Pass{{Day: 100}, {Day: 150, Gate: 1}}, true},
		{0, 2, 170, []api.Pass{{Day: 170}, {Day: 300, Gate: 2}}, true},
		{2, 0, 0, []api.Pass{{Day: 0, Gate: 2}, {Day: 100}}, true},
		{0, 3, 0, nil, false},
		{3, 3, 7, nil, true},
	} {
		if got, ok, err := fell.Path(f, x.a, x.b, x.from); !slices.Equal(got, x.want) || ok != x.ok || err != api.OK {
			t.Error(x, got, ok, err)
		}
	}
}
