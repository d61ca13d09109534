package sheets_test

import (
	"math/rand"
	"slices"
	"testing"

	"earmark/api"
	"earmark/sheets"
)

// P6.1, with the least and the greatest values.
func TestCheckHead(t *testing.T) {
	for sex := range 3 {
		for teeth := range 5 {
			for _, paint := range []int{0, 1, 31, 63} {
				for _, m := range []api.Mark{whole, notched, bitten, cropped} {
					if err := sheets.CheckHead(headOf(sex, teeth, paint, m)); err != api.OK {
						t.Error(sex, teeth, paint, m, err)
					}
				}
			}
		}
	}
	if err := sheets.CheckHead(headOf(0, 5, 0, whole)); err != api.ErrHead {
		t.Error(err)
	}
	for _, h := range badHeads() {
		if err := sheets.CheckHead(h); err != api.ErrHead {
			t.Error(h, err)
		}
	}
}

// P6.1
func TestCheckSheet(t *testing.T) {
	for _, s := range []api.Sheet{
		{Parts: 1},
		{Gathering: 4095, Clerk: 4095, Part: 15, Parts: 16, Day: 1048576, Grazing: 15},
		{Parts: 16, Heads: []api.Head{}},
		part(1, 2, 0, 1, make([]api.Head, 64)...),
		part(1, 2, 1, 2, headOf(2, 4, 63, cropped), headOf(2, 4, 63, cropped)),
	} {
		if err := sheets.CheckSheet(s); err != api.OK {
			t.Error(s, err)
		}
	}
	if err := sheets.CheckSheet(part(0, 0, 1, 1)); err != api.ErrSheet {
		t.Error(err)
	}
	if err := sheets.CheckSheet(api.Sheet{}); err != api.ErrSheet {
		t.Error(err)
	}
	for _, s := range badSheets() {
		if err := sheets.CheckSheet(s); err != api.ErrSheet {
			t.Error(s, err)
		}
	}
}

// P6.1
func TestCheckRoll(t *testing.T) {
	for _, r := range []api.Roll{
		{},
		{Sheets: []api.Sheet{}},
		rollOf(part(0, 0, 0, 1)),
		rollOf(manySheets(64)...),
		rollOf(part(3, 5, 2, 4), part(3, 5, 3, 4)),
		rollOf(part(3, 5, 2, 4), part(3, 6, 0, 4)),
		rollOf(part(3, 5, 2, 4), part(4, 0, 0, 1)),
		rollOf(part(3, 5, 0, 2), part(3, 5, 3, 4)),
	} {
		if err := sheets.CheckRoll(r); err != api.OK {
			t.Error(r, err)
		}
	}
	for i, r := range badRolls() {
		if err := sheets.CheckRoll(r); err != api.ErrSheet {
			t.Error(i, err)
		}
	}
}

// P6.1: a roll of two sheets is valid exactly if their keys increase.
func TestCheckRollOfTwo(t *testing.T) {
	r := rand.New(rand.NewSource(61))
	for range 2000 {
		a, b := randomSheet(r), randomSheet(r)
		want := api.ErrSheet
		if isLess(keyOf(a), keyOf(b)) {
			want = api.OK
		}
		if err := sheets.CheckRoll(rollOf(a, b)); err != want {
			t.Fatal(a, b, err)
		}
	}
}

// rollCall is a call of a function of a roll, which reports whether the results besides the error are all zero.
type rollCall struct {
	name string
	run  func(r api.Roll) (bool, api.Errno)
}

// rollCalls are all calls of functions of a roll, also with other arguments that are not in their ranges.
func rollCalls() []rollCall {
	l := []rollCall{
		{"Join first", func(r api.Roll) (bool, api.Errno) {
			made, c, err := sheets.Join(r, api.Roll{})
			return len(made.Sheets) == 0 && len(c) == 0, err
		}},
		{"Join second", func(r api.Roll) (bool, api.Errno) {
			made, c, err := sheets.Join(rollOf(manySheets(64)...), r)
			return len(made.Sheets) == 0 && len(c) == 0, err
		}},
		{"Join both", func(r api.Roll) (bool, api.Errno) {
			made, c, err := sheets.Join(r, r)
			return len(made.Sheets) == 0 && len(c) == 0, err
		}},
		{"Missing", func(r api.Roll) (bool, api.Errno) {
			l, err := sheets.Missing(r)
			return len(l) == 0, err
		}},
		{"Sightings", func(r api.Roll) (bool, api.Errno) {
			l, err := sheets.Sightings(r)
			return len(l) == 0, err
		}},
	}
	for _, n := range []int{0, least, -1, most} {
		l = append(l, rollCall{"Complete", func(r api.Roll) (bool, api.Errno) {
			is, err := sheets.Complete(r, n, n)
			return !is, err
		}}, rollCall{"Between", func(r api.Roll) (bool, api.Errno) {
			made, err := sheets.Between(r, n, 0)
			return len(made.Sheets) == 0, err
		}})
	}
	return l
}

// P6.2 and P6.3: a roll that is not valid comes before every other error.
func TestInvalidRolls(t *testing.T) {
	for _, c := range rollCalls() {
		for i, r := range badRolls() {
			if zero, err := c.run(r); !zero || err != api.ErrSheet {
				t.Error(c.name, i, zero, err)
			}
		}
	}
}

// R2: arguments are neither changed nor kept, and results are new memory.
func TestMemory(t *testing.T) {
	l := []api.Sheet{part(1, 1, 0, 1, headOf(0, 1, 2, notched)), part(1, 1, 0, 1, headOf(1, 1, 2, notched)), part(1, 1, 0, 1, headOf(2, 1, 2, notched))}
	want, conflicts := merged(l)
	made, found, err := sheets.Merge(l)
	if !sameRoll(made, want) || !sameConflicts(found, conflicts) || len(found) != 2 || err != api.OK {
		t.Fatal(made, found, err)
	}
	// Writing to one of the lists of the result must change no other one, and no argument.
	lists := [][]api.Head{made.Sheets[0].Heads, found[0].A.Heads, found[0].B.Heads, found[1].A.Heads, found[1].B.Heads, l[0].Heads, l[1].Heads, l[2].Heads}
	checkApart(t, lists)
	r := rollOf(part(1, 1, 0, 3, headOf(0, 1, 2, notched)), part(1, 1, 1, 3, headOf(1, 1, 2, notched)))
	copied := rollOf(part(1, 1, 0, 3, headOf(0, 1, 2, notched)), part(1, 1, 1, 3, headOf(1, 1, 2, notched)))
	for _, c := range rollCalls() {
		c.run(r)
	}
	if !sameRoll(r, copied) {
		t.Error("an argument has been changed")
	}
	joined, _, _ := sheets.Join(r, r)
	some, _ := sheets.Between(r, 0, 5)
	checkApart(t, [][]api.Head{r.Sheets[0].Heads, r.Sheets[1].Heads, joined.Sheets[0].Heads, joined.Sheets[1].Heads, some.Sheets[0].Heads, some.Sheets[1].Heads})
	checkNew(t, func() []api.Sheetkey { l, _ := sheets.Missing(r); return l })
	checkNew(t, func() []api.Sighting { l, _ := sheets.Sightings(r); return l })
	checkNew(t, func() []api.Mark { l, _ := sheets.Variants(notched); return l })
	sheep, _ := sheets.Sightings(r)
	checkNew(t, func() [][2]int { l, _ := sheets.Pairing(sheep, sheep, 1); return l })
	checkNew(t, func() []api.Head { s, _, _ := sheets.Parse(sheetText(r.Sheets[0])); return s.Heads })
}

// checkApart checks that no two of some lists with one element share memory.
func checkApart(t *testing.T, lists [][]api.Head) {
	t.Helper()
	for i, l := range lists {
		l[0].Paint = i + 10
	}
	for i, l := range lists {
		if l[0].Paint != i+10 {
			t.Error("list", i, "shares memory with another one")
		}
	}
}

// checkNew checks that what get returns has elements, and is not kept.
func checkNew[T comparable](t *testing.T, get func() []T) {
	t.Helper()
	l := get()
	want := slices.Clone(l)
	clear(l)
	if len(l) == 0 || !slices.Equal(get(), want) {
		t.Error(l, want)
	}
}

// R3: lists may be nil or empty.
func TestEmptyLists(t *testing.T) {
	a, b := part(1, 1, 0, 1), part(1, 1, 0, 1)
	b.Heads = []api.Head{}
	for _, l := range [][]api.Sheet{{a, b}, {b, a}} {
		if r, c, err := sheets.Merge(l); !sameRoll(r, rollOf(a)) || len(c) != 0 || err != api.OK {
			t.Error(r, c, err)
		}
	}
	for _, l := range [][]api.Sheet{nil, {}} {
		r := rollOf(l...)
		made, c, err := sheets.Merge(l)
		if len(made.Sheets) != 0 || len(c) != 0 || err != api.OK {
			t.Error(made, c, err)
		}
		if l, err := sheets.Missing(r); len(l) != 0 || err != api.OK {
			t.Error(l, err)
		}
		if is, err := sheets.Complete(r, 0, 0); is || err != api.OK {
			t.Error(is, err)
		}
		if some, err := sheets.Between(r, 0, 0); len(some.Sheets) != 0 || err != api.OK {
			t.Error(some, err)
		}
		if l, err := sheets.Sightings(r); len(l) != 0 || err != api.OK {
			t.Error(l, err)
		}
		if made, c, err := sheets.Join(r, r); len(made.Sheets) != 0 || len(c) != 0 || err != api.OK {
			t.Error(made, c, err)
		}
	}
	for _, s := range []api.Sheet{a, b} {
		for _, l := range [][]api.Mark{nil, {}} {
			if n, small, err := sheets.Fewest(s, l); n != 0 || !small || err != api.OK {
				t.Error(n, small, err)
			}
		}
		if text, err := sheets.Print(s); text != "sheet 1 1 0 1 5 2\n" || err != api.OK {
			t.Error(text, err)
		}
	}
}
