package register_test

import (
	"slices"
	"testing"

	"earmark/api"
	"earmark/knife"
	"earmark/register"
)

// family is a register of marks that have been split from each other, the later ones known first.
func family(t *testing.T) api.Register {
	bits := func(s string) api.Mark { return markOf("near: " + s + "; far: upper bit 0, upper bit 2") }
	return registerOf(t, folds3(), budget(0, 0),
		at(10, 0, admit(bits("whole"), 1, 0)),
		at(40, 1, split(0, bits("slit"), 2)),
		at(20, 2, split(0, bits("upper bit 0"), 3)),
		at(50, 3, split(1, bits("slit, hole 1"), 3)),
		at(30, 4, sell(0, 5)),
		at(50, 5, sell(1, 6)),
		at(60, 6, split(3, bits("forked, hole 1"), 1)),
		at(35, 7, move(0, 1)),
		at(30, 8, rest(2)),
		at(30, 8, resume(2)),
		at(5, 9, admit(bits("slit, hole 1"), 2, 4)),
		at(45, 9, sell(0, 1)))
}

func checkList(t *testing.T, name string, got []int, err api.Errno, want []int, failed api.Errno) {
	t.Helper()
	if !slices.Equal(got, want) || err != failed {
		t.Error(name, got, err, want, failed)
	}
}

// P5.5 and P5.11
func TestHistoryLineAndHeirsOfAFamily(t *testing.T) {
	r := family(t)
	for _, x := range []struct {
		id                   int
		history, line, heirs []int
		err                  api.Errno
	}{
		{0, []int{0, 2, 4, 7, 1, 11}, nil, []int{1, 2, 3, 6}, api.OK},
		{1, []int{1, 3, 5}, []int{0}, []int{3, 6}, api.OK},
		{2, []int{2, 8, 9}, []int{0}, nil, api.OK},
		{3, []int{3, 6}, []int{1, 0}, []int{6}, api.OK},
		{4, nil, nil, nil, api.ErrUnknown},
		{5, nil, nil, nil, api.ErrUnknown},
		{6, []int{6}, []int{3, 1, 0}, nil, api.OK},
		{7, nil, nil, nil, api.ErrUnknown},
		{8, nil, nil, nil, api.ErrUnknown},
		{9, nil, nil, nil, api.ErrUnknown},
		{10, []int{10}, nil, nil, api.OK},
		{11, nil, nil, nil, api.ErrUnknown},
		{12, nil, nil, nil, api.ErrUnknown},
		{4095, nil, nil, nil, api.ErrUnknown},
		{4096, nil, nil, nil, api.ErrArg},
		{-1, nil, nil, nil, api.ErrArg},
	} {
		l, err := register.History(r, x.id)
		checkList(t, "History", l, err, x.history, x.err)
		l, err = register.Line(r, x.id)
		checkList(t, "Line", l, err, x.line, x.err)
		l, err = register.Heirs(r, x.id)
		checkList(t, "Heirs", l, err, x.heirs, x.err)
	}
}

// P5.5, example, and spans of one day, of none, and of the last day.
func TestSpansExamples(t *testing.T) {
	last := api.MaxDay + 1
	for i, x := range []struct {
		sells []api.Event
		known int
		want  []api.Span
		err   api.Errno
	}{
		{nil, 50, []api.Span{{From: 10, To: last, Flock: 1}}, api.OK},
		{nil, 49, nil, api.ErrUnknown},
		{[]api.Event{at(30, 50, sell(0, 2))}, 50, []api.Span{{From: 10, To: 30, Flock: 1}, {From: 30, To: last, Flock: 2}}, api.OK},
		{[]api.Event{at(30, 51, sell(0, 2))}, 50, []api.Span{{From: 10, To: last, Flock: 1}}, api.OK},
		{[]api.Event{at(10, 51, sell(0, 2))}, 51, []api.Span{{From: 10, To: last, Flock: 2}}, api.OK},
		{[]api.Event{at(11, 51, sell(0, 2))}, 51, []api.Span{{From: 10, To: 11, Flock: 1}, {From: 11, To: last, Flock: 2}}, api.OK},
		{[]api.Event{at(api.MaxDay, 51, sell(0, 2))}, api.MaxDay, []api.Span{{From: 10, To: api.MaxDay, Flock: 1}, {From: api.MaxDay, To: last, Flock: 2}}, api.OK},
		// Sold and bought back on one day, and on different ones.
		{[]api.Event{at(30, 51, sell(0, 2)), at(30, 51, sell(0, 1))}, 51, []api.Span{{From: 10, To: last, Flock: 1}}, api.OK},
		{[]api.Event{at(30, 51, sell(0, 2)), at(30, 52, sell(0, 1))}, 51, []api.Span{{From: 10, To: 30, Flock: 1}, {From: 30, To: last, Flock: 2}}, api.OK},
		{[]api.Event{at(30, 51, sell(0, 2)), at(31, 51, sell(0, 1))}, 51, []api.Span{{From: 10, To: 30, Flock: 1}, {From: 30, To: 31, Flock: 2}, {From: 31, To: last, Flock: 1}}, api.OK},
		{[]api.Event{at(30, 51, sell(0, 2)), at(30, 51, sell(0, 3)), at(30, 51, sell(0, 0))}, 51, []api.Span{{From: 10, To: 30, Flock: 1}, {From: 30, To: last, Flock: 0}}, api.OK},
		// A sale that was known later comes earlier, and leaves a later one that changes nothing any more.
		{[]api.Event{at(40, 51, sell(0, 2)), at(30, 60, sell(0, 3)), at(35, 61, sell(0, 1))}, 61, []api.Span{{From: 10, To: 30, Flock: 1}, {From: 30, To: 35, Flock: 3}, {From: 35, To: 40, Flock: 1}, {From: 40, To: last, Flock: 2}}, api.OK},
		{[]api.Event{at(40, 51, sell(0, 2)), at(30, 60, sell(0, 3))}, 59, []api.Span{{From: 10, To: 40, Flock: 1}, {From: 40, To: last, Flock: 2}}, api.OK},
		// What is no sale changes nothing.
		{[]api.Event{at(20, 51, move(0, 4)), at(21, 51, rest(0)), at(30, 51, sell(0, 2)), at(31, 51, resume(0))}, 51, []api.Span{{From: 10, To: 30, Flock: 1}, {From: 30, To: last, Flock: 2}}, api.OK},
		{[]api.Event{at(20, 51, admit(markK, 7, 4)), at(30, 51, sell(1, 2))}, 51, []api.Span{{From: 10, To: last, Flock: 1}}, api.OK},
		{[]api.Event{at(20, 51, split(0, markK, 7)), at(30, 51, sell(1, 2))}, 51, []api.Span{{From: 10, To: last, Flock: 1}}, api.OK},
	} {
		r := registerOf(t, folds3(), budget(0, 0), append([]api.Event{at(10, 50, admit(markW, 1, 0))}, x.sells...)...)
		if l, err := register.Spans(r, 0, x.known); !slices.Equal(l, x.want) || err != x.err {
			t.Error(i, l, err)
		}
	}
	r := family(t)
	for _, id := range []int{4, 5, 7, 8, 9, 11, 12, 4095} {
		if l, err := register.Spans(r, id, api.MaxDay); len(l) != 0 || err != api.ErrUnknown {
			t.Error(id, l, err)
		}
	}
	if l, err := register.Spans(r, 3, 3); !slices.Equal(l, []api.Span{{From: 50, To: last, Flock: 3}}) || err != api.OK {
		t.Error(l, err)
	}
	if l, err := register.Spans(r, 3, 2); len(l) != 0 || err != api.ErrUnknown {
		t.Error(l, err)
	}
}

// P5.5: marks that come, are held differently, or go, if less was known.
func TestChangedExamples(t *testing.T) {
	r := family(t)
	for _, x := range []struct {
		day, before, after int
		want               []int
	}{
		{50, 3, 3, nil},
		{60, 0, 9, []int{0, 1, 2, 3, 6, 10}},
		{60, 9, 0, []int{0, 1, 2, 3, 6, 10}},
		{9, 0, api.MaxDay, []int{10}},
		{4, 0, api.MaxDay, nil},
		{25, 1, 2, []int{2}},
		{30, 3, 4, []int{0}},
		{29, 3, 4, nil},
		{50, 4, 5, []int{1}},
		{35, 6, 7, []int{0}},
		{30, 7, 8, nil},
		{45, 8, 9, []int{0, 10}},
		{api.MaxDay, 0, 1, []int{1}},
	} {
		l, err := register.Changed(r, x.day, x.before, x.after)
		checkList(t, "Changed", l, err, x.want, api.OK)
	}
}

// P5.5, against the plain reading.
func TestHistoryOfSomeRegisters(t *testing.T) {
	for i, r := range append(someRegisters(), family(t)) {
		d := dice(900 + i)
		for id := range len(r.Events) + 1 {
			var history, line []int
			for _, e := range sorted(r.Events) {
				if e.No == id || e.Kind != api.AdmitE && e.Id == id {
					history = append(history, e.No)
				}
			}
			want := api.ErrUnknown
			h, ok := stateOf(r, api.MaxDay, api.MaxDay)[id]
			if ok {
				want = api.OK
			} else {
				history = nil
			}
			for from := h; ok && from.From >= 0; from = stateOf(r, api.MaxDay, api.MaxDay)[from.From] {
				line = append(line, from.From)
			}
			got, err := register.History(r, id)
			checkList(t, "History", got, err, history, want)
			got, err = register.Line(r, id)
			checkList(t, "Line", got, err, line, want)
			checkSpans(t, r, id, knownDays(r)[d.throw(len(knownDays(r)))])
		}
		for range 40 {
			day, before, after := d.throw(someDays), d.throw(40), d.throw(40)
			a, b := stateOf(r, day, before), stateOf(r, day, after)
			var want []int
			for id := range r.Events {
				if a[id] != b[id] {
					want = append(want, id)
				}
			}
			got, err := register.Changed(r, day, before, after)
			checkList(t, "Changed", got, err, want, api.OK)
		}
	}
}

// checkSpans checks Spans (P5.5 and P5.12): on each day the mark is there exactly if the day is in one of them, and has its flock; they do not overlap, and neighbours have different flocks.
func checkSpans(t *testing.T, r api.Register, id, known int) {
	t.Helper()
	l, err := register.Spans(r, id, known)
	if _, ok := stateOf(r, api.MaxDay, known)[id]; !ok {
		if len(l) != 0 || err != api.ErrUnknown {
			t.Fatal(r, id, known, l, err)
		}
		return
	}
	if len(l) == 0 || err != api.OK {
		t.Fatal(r, id, known, l, err)
	}
	for i, x := range l {
		if x.From >= x.To || i > 0 && (l[i-1].To > x.From || l[i-1].To == x.From && l[i-1].Flock == x.Flock) {
			t.Fatal(r, id, known, l)
		}
	}
	for _, day := range []int{0, 1, 2, 3, 4, 5, 6, 7, 8, 9, 10, 11, 12, 29, 30, 31, 39, 40, 44, 45, 50, 60, api.MaxDay} {
		h, ok := stateOf(r, day, known)[id]
		i := slices.IndexFunc(l, func(x api.Span) bool { return x.From <= day && day < x.To })
		if ok != (i >= 0) || ok && l[i].Flock != h.Flock {
			t.Fatal(r, id, known, day, l)
		}
	}
}

// P5.11: marks are split from marks that were there before, by the knife alone; heirs and lines are two sides of one thing.
func TestDescent(t *testing.T) {
	heirs := 0
	for _, r := range append(someRegisters(), family(t)) {
		for id := range r.Events {
			line, err := register.Line(r, id)
			if err != api.OK {
				continue
			}
			h, _ := register.Get(r, id, api.MaxDay, api.MaxDay)
			for _, from := range line {
				heirs++
				old, err := register.Get(r, from, r.Events[id].At, r.Events[id].Known)
				near, _ := knife.Can(old.Mark.Near, h.Mark.Near)
				far, _ := knife.Can(old.Mark.Far, h.Mark.Far)
				if err != api.OK || from >= id || !near || !far {
					t.Fatal(r, id, line, err)
				}
			}
			for other := range r.Events {
				l, err := register.Heirs(r, other)
				if err == api.OK && slices.Contains(l, id) != slices.Contains(line, other) || !slices.IsSorted(l) {
					t.Fatal(r, id, other, l, line)
				}
			}
		}
	}
	if heirs < 10 {
		t.Error(heirs)
	}
}
