package sheets_test

import (
	"math/rand"
	"slices"
	"testing"

	"earmark/api"
	"earmark/sheets"
)

// missing returns the keys of all parts of accounts with a sheet in r that are not there, by going through all keys.
func missing(r api.Roll) []api.Sheetkey {
	var l []api.Sheetkey
	for gathering := range 6 {
		for clerk := range 14 {
			parts := 0
			for _, s := range r.Sheets {
				if s.Gathering == gathering && s.Clerk == clerk {
					parts = max(parts, s.Parts)
				}
			}
			for no := range parts {
				key := api.Sheetkey{Gathering: gathering, Clerk: clerk, Part: no}
				if !slices.ContainsFunc(r.Sheets, func(s api.Sheet) bool { return keyOf(s) == key }) {
					l = append(l, key)
				}
			}
		}
	}
	return l
}

// P6.3, against the plain reading.
func TestMissingAndComplete(t *testing.T) {
	r := rand.New(rand.NewSource(65))
	whole, partial := 0, 0
	for n := range 500 {
		roll, _ := merged(randomSheets(r, n%30))
		want := missing(roll)
		for range 3 {
			if l, err := sheets.Missing(roll); !slices.Equal(l, want) || err != api.OK {
				t.Fatal(roll, l, err)
			}
		}
		for gathering := range 6 {
			for clerk := range 14 {
				there := slices.ContainsFunc(roll.Sheets, func(s api.Sheet) bool { return s.Gathering == gathering && s.Clerk == clerk })
				lacks := slices.ContainsFunc(want, func(k api.Sheetkey) bool { return k.Gathering == gathering && k.Clerk == clerk })
				if is, err := sheets.Complete(roll, gathering, clerk); is != (there && !lacks) || err != api.OK {
					t.Fatal(roll, gathering, clerk, is, err)
				}
				if there && lacks {
					partial++
				} else if there {
					whole++
				}
			}
		}
	}
	if whole < 300 || partial < 300 {
		t.Error(whole, partial)
	}
}

// P6.3, examples.
func TestMissingExamples(t *testing.T) {
	key := func(gathering, clerk, no int) api.Sheetkey {
		return api.Sheetkey{Gathering: gathering, Clerk: clerk, Part: no}
	}
	for _, x := range []struct {
		r    api.Roll
		want []api.Sheetkey
	}{
		{api.Roll{}, nil},
		{rollOf(part(0, 0, 0, 1)), nil},
		{rollOf(part(5, 6, 0, 2), part(5, 6, 3, 4)), []api.Sheetkey{key(5, 6, 1), key(5, 6, 2)}},
		{rollOf(part(5, 6, 0, 4), part(5, 6, 1, 2)), []api.Sheetkey{key(5, 6, 2), key(5, 6, 3)}},
		{rollOf(part(5, 6, 0, 2), part(5, 6, 1, 2)), nil},
		{rollOf(part(5, 6, 1, 2), part(5, 7, 0, 2), part(6, 6, 2, 3)), []api.Sheetkey{key(5, 6, 0), key(5, 7, 1), key(6, 6, 0), key(6, 6, 1)}},
		{rollOf(part(0, 4095, 0, 2), part(4095, 0, 1, 2)), []api.Sheetkey{key(0, 4095, 1), key(4095, 0, 0)}},
	} {
		if l, err := sheets.Missing(x.r); !slices.Equal(l, x.want) || err != api.OK {
			t.Error(x, l, err)
		}
	}
	last := part(4095, 4095, 15, 16)
	l, err := sheets.Missing(rollOf(last))
	if len(l) != 15 || l[0] != key(4095, 4095, 0) || l[14] != key(4095, 4095, 14) || err != api.OK {
		t.Error(l, err)
	}
	for i := range 64 {
		full := manySheets(64)
		l, err := sheets.Missing(rollOf(slices.Delete(full, i, i+1)...))
		if !slices.Equal(l, []api.Sheetkey{key(i/32, i/16%2, i%16)}) || err != api.OK {
			t.Error(i, l, err)
		}
	}
}

// P6.3
func TestCompleteExamples(t *testing.T) {
	r := rollOf(part(5, 6, 0, 2), part(5, 6, 1, 2), part(5, 7, 0, 2), part(4095, 4095, 0, 1))
	for _, x := range []struct {
		r                api.Roll
		gathering, clerk int
		want             bool
	}{
		{api.Roll{}, 0, 0, false}, {r, 5, 6, true}, {r, 5, 7, false}, {r, 6, 5, false}, {r, 0, 0, false}, {r, 4095, 4095, true}, {r, 4095, 0, false},
	} {
		if is, err := sheets.Complete(x.r, x.gathering, x.clerk); is != x.want || err != api.OK {
			t.Error(x, is, err)
		}
	}
	for _, bad := range []int{least, -1, 4096, most} {
		for _, x := range [][2]int{{bad, 0}, {0, bad}, {bad, bad}, {5, bad}, {bad, 6}} {
			if is, err := sheets.Complete(r, x[0], x[1]); is || err != api.ErrArg {
				t.Error(x, is, err)
			}
		}
	}
}

// P6.3
func TestBetween(t *testing.T) {
	r := rand.New(rand.NewSource(66))
	for n := range 100 {
		roll, _ := merged(randomSheets(r, n%30))
		for from := range 16 {
			for to := from; to < 16; to++ {
				want := api.Roll{}
				for _, s := range roll.Sheets {
					if s.Day >= from && s.Day <= to {
						want.Sheets = append(want.Sheets, s)
					}
				}
				if made, err := sheets.Between(roll, from, to); !sameRoll(made, want) || err != api.OK {
					t.Fatal(roll, from, to, made, err)
				}
			}
		}
	}
	ends := rollOf(part(1, 0, 0, 1), part(2, 0, 0, 1))
	ends.Sheets[0].Day, ends.Sheets[1].Day = 1048576, 0
	for _, x := range []struct {
		from, to int
		want     api.Roll
	}{
		{0, 1048576, ends}, {0, 0, rollOf(ends.Sheets[1])}, {1048576, 1048576, rollOf(ends.Sheets[0])}, {1, 1048575, api.Roll{}},
	} {
		if made, err := sheets.Between(ends, x.from, x.to); !sameRoll(made, x.want) || err != api.OK {
			t.Error(x, made, err)
		}
	}
	for _, x := range [][2]int{{-1, 5}, {least, most}, {5, 4}, {1, 0}, {0, 1048577}, {1048577, 1048577}, {0, -1}, {-1, -1}, {0, most}, {most, least}} {
		if made, err := sheets.Between(ends, x[0], x[1]); len(made.Sheets) != 0 || err != api.ErrArg {
			t.Error(x, made, err)
		}
	}
}

// P6.3
func TestSightings(t *testing.T) {
	a, b, c := headOf(0, 1, 2, notched), headOf(1, 2, 3, cropped), headOf(2, 3, 4, whole)
	roll := rollOf(part(1, 9, 0, 2, a, b, a), part(1, 9, 1, 2), part(2, 3, 4, 5, c))
	roll.Sheets[2].Day, roll.Sheets[2].Grazing = 77, 15
	first, second := api.Sheetkey{Gathering: 1, Clerk: 9}, api.Sheetkey{Gathering: 2, Clerk: 3, Part: 4}
	want := []api.Sighting{
		{Key: first, Day: 5, Grazing: 2, Index: 0, Head: a}, {Key: first, Day: 5, Grazing: 2, Index: 1, Head: b}, {Key: first, Day: 5, Grazing: 2, Index: 2, Head: a},
		{Key: second, Day: 77, Grazing: 15, Index: 0, Head: c},
	}
	if l, err := sheets.Sightings(roll); !slices.Equal(l, want) || err != api.OK {
		t.Error(l, err)
	}
	full := rollOf(manySheets(64)...)
	for i := range full.Sheets {
		full.Sheets[i].Heads = slices.Repeat([]api.Head{b}, 64)
	}
	if l, err := sheets.Sightings(full); len(l) != 4096 || l[4095].Index != 63 || l[4095].Key != keyOf(full.Sheets[63]) || err != api.OK {
		t.Error(len(l), err)
	}
}
