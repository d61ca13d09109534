package sheets_test

import (
	"math/rand"
	"slices"
	"testing"

	"earmark/api"
	"earmark/sheets"
)

// P6.2: the chapter's examples.
func TestMergeExamples(t *testing.T) {
	s := part(7, 8, 0, 1, headOf(1, 2, 3, notched))
	other := part(7, 8, 0, 1, headOf(1, 2, 4, notched))
	for _, l := range [][]api.Sheet{{s}, {s, s}, {s, s, s}} {
		if r, c, err := sheets.Merge(l); !sameRoll(r, rollOf(s)) || len(c) != 0 || err != api.OK {
			t.Error(r, c, err)
		}
	}
	want := []api.Conflict{{Key: api.Sheetkey{Gathering: 7, Clerk: 8}, A: s, B: other}}
	for _, l := range [][]api.Sheet{{s, other}, {other, s}, {other, s, other, s}} {
		if r, c, err := sheets.Merge(l); !sameRoll(r, rollOf(s)) || !sameConflicts(c, want) || err != api.OK {
			t.Error(r, c, err)
		}
	}
}

// P6.2: the sheets of a key are in the order of the bytes of their texts, which is not that of their numbers.
func TestMergeOrder(t *testing.T) {
	day := func(n int, heads ...api.Head) api.Sheet {
		s := part(0, 0, 0, 2, heads...)
		s.Day = n
		return s
	}
	ewe, ram, wether := headOf(0, 0, 0, whole), headOf(1, 0, 0, whole), headOf(2, 0, 0, whole)
	l := []api.Sheet{
		part(0, 0, 0, 1), part(0, 0, 0, 10), part(0, 0, 0, 16), day(10), day(100), day(11), day(2, headOf(0, 0, 10, whole)), day(2, headOf(0, 0, 2, whole)),
		day(5), day(5, ewe), day(5, ewe, ewe), day(5, ewe, wether), day(5, ram), day(5, headOf(2, 0, 0, api.Mark{Near: api.Ear{Tip: api.Cropped}})), day(5, headOf(2, 0, 0, api.Mark{Near: api.Ear{Tip: api.Slit}})),
		day(5, headOf(2, 0, 0, api.Mark{Near: whole.Near, Far: api.Ear{Tip: api.Cropped}})), day(5, wether), day(5, headOf(2, 0, 0, bitten)), day(5, headOf(2, 0, 0, notched)), day(9),
	}
	for i := range l[1:] {
		if sheetText(l[i]) >= sheetText(l[i+1]) {
			t.Fatal("the list of the test is not in order", i)
		}
	}
	r := rand.New(rand.NewSource(62))
	for range 200 {
		some := slices.DeleteFunc(slices.Clone(l), func(api.Sheet) bool { return r.Intn(3) == 0 })
		if len(some) == 0 {
			continue
		}
		var want []api.Conflict
		for _, s := range some[1:] {
			want = append(want, api.Conflict{A: some[0], B: s})
		}
		came := slices.Concat(some, some[:len(some)/2])
		r.Shuffle(len(came), func(i, j int) { came[i], came[j] = came[j], came[i] })
		if made, c, err := sheets.Merge(came); !sameRoll(made, rollOf(some[0])) || !sameConflicts(c, want) || err != api.OK {
			t.Fatal(came, made, c, err)
		}
	}
}

// P6.2 and P0.3: against the plain reading; the order, and how often a sheet comes, change nothing, and no sheet is lost.
func TestMerge(t *testing.T) {
	r := rand.New(rand.NewSource(63))
	clashes := 0
	for n := range 400 {
		l := randomSheets(r, n%50)
		want, conflicts := merged(l)
		for range 3 {
			if made, c, err := sheets.Merge(l); !sameRoll(made, want) || !sameConflicts(c, conflicts) || err != api.OK {
				t.Fatal(l, made, c, err)
			}
			if len(l) > 0 {
				l = append(l, l[r.Intn(len(l))])
			}
			r.Shuffle(len(l), func(i, j int) { l[i], l[j] = l[j], l[i] })
		}
		if sheets.CheckRoll(want) != api.OK {
			t.Fatal(want)
		}
		clashes += len(conflicts)
		for _, s := range l {
			isSame := func(x api.Sheet) bool { return sameSheet(s, x) }
			if !slices.ContainsFunc(want.Sheets, isSame) && !slices.ContainsFunc(conflicts, func(x api.Conflict) bool { return isSame(x.B) }) {
				t.Fatal("a sheet is lost", s)
			}
		}
	}
	if clashes < 1000 {
		t.Error(clashes)
	}
}

// P6.2: Join of the rolls of two lists is the roll of both lists together.
func TestJoin(t *testing.T) {
	r := rand.New(rand.NewSource(64))
	for n := range 400 {
		l, m := randomSheets(r, n%20), randomSheets(r, n%30)
		a, _ := merged(l)
		b, _ := merged(m)
		want, _ := merged(slices.Concat(l, m))
		_, conflicts := merged(slices.Concat(a.Sheets, b.Sheets))
		for _, x := range [][2]api.Roll{{a, b}, {b, a}} {
			if made, c, err := sheets.Join(x[0], x[1]); !sameRoll(made, want) || !sameConflicts(c, conflicts) || err != api.OK {
				t.Fatal(x, made, c, err)
			}
		}
		if made, c, err := sheets.Join(a, a); !sameRoll(made, a) || len(c) != 0 || err != api.OK {
			t.Fatal(a, made, c, err)
		}
	}
}

// P0.3: sheets that come one after the other, in any order and some of them again, make the roll of all of them, and each is in it or in a conflict that was found.
func TestJoinOneByOne(t *testing.T) {
	r := rand.New(rand.NewSource(75))
	for n := range 100 {
		l := randomSheets(r, n%40)
		want, _ := merged(l)
		for range 3 {
			var made api.Roll
			var found []api.Sheet
			for _, s := range l {
				next, c, err := sheets.Join(made, rollOf(s))
				if err != api.OK || len(c) > 1 {
					t.Fatal(made, s, c, err)
				}
				for _, x := range c {
					found = append(found, x.A, x.B)
				}
				made = next
			}
			if !sameRoll(made, want) {
				t.Fatal(l, made)
			}
			for _, s := range l {
				if !slices.ContainsFunc(slices.Concat(made.Sheets, found), func(x api.Sheet) bool { return sameSheet(s, x) }) {
					t.Fatal("a sheet is lost", s)
				}
			}
			r.Shuffle(len(l), func(i, j int) { l[i], l[j] = l[j], l[i] })
		}
	}
}

// P6.2: as many keys as there may be, of however many sheets.
func TestMergeLimit(t *testing.T) {
	full := manySheets(64)
	twice := slices.Concat(full, full)
	for i := range full {
		twice[i].Day = 9
	}
	r, c, err := sheets.Merge(twice)
	if !sameRoll(r, rollOf(full...)) || len(c) != 64 || err != api.OK {
		t.Error(len(r.Sheets), len(c), err)
	}
	for _, l := range [][]api.Sheet{manySheets(65), manySheets(200), slices.Concat(twice, manySheets(65))} {
		if r, c, err := sheets.Merge(l); len(r.Sheets) != 0 || len(c) != 0 || err != api.ErrLimit {
			t.Error(len(r.Sheets), len(c), err)
		}
	}
	if r, c, err := sheets.Join(rollOf(full...), rollOf(full[5:]...)); !sameRoll(r, rollOf(full...)) || len(c) != 0 || err != api.OK {
		t.Error(len(r.Sheets), len(c), err)
	}
	if r, c, err := sheets.Join(rollOf(full...), rollOf(part(90, 0, 0, 1))); len(r.Sheets) != 0 || len(c) != 0 || err != api.ErrLimit {
		t.Error(len(r.Sheets), len(c), err)
	}
}

// P6.2: a sheet that is not valid comes before too many keys, wherever it stands.
func TestMergeOfBadSheets(t *testing.T) {
	for _, bad := range badSheets() {
		for _, l := range [][]api.Sheet{{bad}, {bad, part(0, 0, 0, 1)}, append(manySheets(5), bad), append(manySheets(70), bad)} {
			if r, c, err := sheets.Merge(l); len(r.Sheets) != 0 || len(c) != 0 || err != api.ErrSheet {
				t.Error(bad, len(r.Sheets), len(c), err)
			}
		}
	}
}
