package fell_test

import (
	"slices"
	"testing"

	"earmark/api"
	"earmark/fell"
)

// P4.3
func TestFolds(t *testing.T) {
	sizes := map[int]int{}
	for _, f := range append(someFells(), smallFells()...) {
		want := tablesOf(f).folds(nil)
		folds, err := fell.Folds(f)
		if !sameSets(folds, classes(want)) || err != api.OK {
			t.Fatal(f, folds, err)
		}
		sizes[len(folds)]++
		for a := range f.Grazings {
			if got, err := fell.Ever(f, a); !slices.Equal(got, places(want[a]).list()) || err != api.OK {
				t.Fatal(f, a, got, err)
			}
		}
	}
	if sizes[1] < 10 || sizes[2] < 10 || sizes[3] < 10 {
		t.Error(sizes)
	}
}

// P4.3: the gates without which grazings are in different folds.
func TestBridges(t *testing.T) {
	found := map[int]int{}
	for _, f := range append(someFells(), smallFells()...) {
		r := tablesOf(f)
		var want []int
		for i, g := range f.Gates {
			if g.From != g.To && !r.folds([]int{i})[g.A][g.B] {
				want = append(want, i)
			}
		}
		if got, err := fell.Bridges(f); !slices.Equal(got, want) || err != api.OK {
			t.Fatal(f, got, err, want)
		}
		found[len(want)]++
	}
	if found[0] < 10 || found[1] < 10 || found[2] < 10 {
		t.Error(found)
	}
}

// P4.3
func TestWithout(t *testing.T) {
	d := dice(77)
	for _, f := range someFells() {
		kept := clone(f)
		for range 5 {
			var l []int
			want := clone(f)
			for range d.below(12) {
				if len(f.Gates) > 0 {
					i := d.below(len(f.Gates))
					l = append(l, i, i)
					want.Gates[i].To = want.Gates[i].From
				}
			}
			given := slices.Clone(l)
			got, err := fell.Without(f, l)
			if !sameFell(got, want) || err != api.OK {
				t.Fatal(f, l, got, err)
			}
			if !sameFell(f, kept) || !slices.Equal(l, given) {
				t.Fatal("an argument has been changed")
			}
			for i := range got.Gates {
				got.Gates[i].A = -1
			}
			if !sameFell(f, kept) {
				t.Fatal("the result shares memory with an argument")
			}
		}
	}
	for _, i := range []int{-1, 4, 5, least, most} {
		for _, l := range [][]int{{i}, {0, i}, {i, 0}, {1, 2, 3, i}} {
			if got, err := fell.Without(exampleFell(), l); got.Grazings != 0 || len(got.Gates) != 0 || err != api.ErrArg {
				t.Error(l, got, err)
			}
		}
	}
	if got, err := fell.Without(api.Fell{Grazings: 2}, []int{0}); got.Grazings != 0 || len(got.Gates) != 0 || err != api.ErrArg {
		t.Error(got, err)
	}
}

// P4.3, examples
func TestFoldExamples(t *testing.T) {
	f := exampleFell()
	if got, err := fell.Folds(f); !sameSets(got, [][]int{{0, 1, 2}, {3}}) || err != api.OK {
		t.Error(got, err)
	}
	if got, err := fell.Ever(f, 1); !slices.Equal(got, []int{0, 1, 2}) || err != api.OK {
		t.Error(got, err)
	}
	if got, err := fell.Ever(f, 3); !slices.Equal(got, []int{3}) || err != api.OK {
		t.Error(got, err)
	}
	if got, err := fell.Bridges(f); !slices.Equal(got, []int{0}) || err != api.OK {
		t.Error(got, err)
	}
	want := exampleFell()
	want.Gates[1] = api.Gate{A: 1, B: 2, From: 150, To: 150}
	if got, err := fell.Without(f, []int{1, 1}); !sameFell(got, want) || err != api.OK {
		t.Error(got, err)
	}
	if got, err := fell.Bridges(want); !slices.Equal(got, []int{0, 2}) || err != api.OK {
		t.Error(got, err)
	}
}

// P4.9
func TestBridgesAndShut(t *testing.T) {
	for _, f := range append(someFells(), smallFells()...) {
		bridges, _ := fell.Bridges(f)
		for i, g := range f.Gates {
			l, err := fell.Shut(f, g.A, g.B)
			if slices.Equal(l, []int{i}) != slices.Contains(bridges, i) || err != api.OK {
				t.Fatal(f, i, l, bridges, err)
			}
		}
	}
}

// P4.9: in a fold without a bridge there are two lanes between any two grazings.
func TestFoldsWithoutBridges(t *testing.T) {
	pairs := 0
	for _, f := range append(someFells(), smallFells()...) {
		bridges, _ := fell.Bridges(f)
		folds, _ := fell.Folds(f)
		for _, l := range folds {
			if slices.ContainsFunc(bridges, func(i int) bool { return slices.Contains(l, f.Gates[i].A) }) {
				continue
			}
			for _, a := range l {
				for _, b := range l {
					if a == b {
						continue
					}
					pairs++
					if lanes, err := fell.Lanes(f, a, b); len(lanes) < 2 || err != api.OK {
						t.Fatal(f, a, b, lanes, err)
					}
				}
			}
		}
	}
	if pairs < 100 {
		t.Error(pairs)
	}
}
