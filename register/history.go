package register

import (
	"cmp"
	"slices"

	"earmark/api"
)

// History returns the numbers of the events that are about a mark, in order.
func History(r api.Register, id int) ([]int, api.Errno) {
	if err := checkId(r, id); err != api.OK {
		return nil, err
	}
	var l []int
	for _, e := range inOrder(r, func(e api.Event) bool { return e.No == id || e.Kind != api.AdmitE && e.Id == id }) {
		l = append(l, e.No)
	}
	return l, api.OK
}

// Line returns the ids from which a mark was split, from its parent up to the first one.
func Line(r api.Register, id int) ([]int, api.Errno) {
	if err := checkId(r, id); err != api.OK {
		return nil, err
	}
	return lineOf(r, id), api.OK
}

// Heirs returns the ids of all marks that were split from a mark, or from one of these, in increasing order.
func Heirs(r api.Register, id int) ([]int, api.Errno) {
	if err := checkId(r, id); err != api.OK {
		return nil, err
	}
	var l []int
	for _, e := range r.Events {
		if slices.Contains(lineOf(r, e.No), id) {
			l = append(l, e.No)
		}
	}
	return l, api.OK
}

// Spans returns which flock has a mark from when to when, as known on the day known.
func Spans(r api.Register, id, known int) ([]api.Span, api.Errno) {
	if err := cmp.Or(Check(r), inRange(isId(id) && isDay(known)), checkMark(r, id, known)); err != api.OK {
		return nil, err
	}
	var l []api.Span
	for _, e := range inOrder(r, func(e api.Event) bool {
		return e.Known <= known && (e.No == id || e.Kind == api.SellE && e.Id == id)
	}) {
		if len(l) > 0 {
			l[len(l)-1].To = e.At
		}
		l = append(l, api.Span{From: e.At, To: api.MaxDay + 1, Flock: e.Flock})
	}
	return longest(l), api.OK
}

// Changed returns the ids of the marks that are held differently on the day at, as known on two days.
func Changed(r api.Register, at, before, after int) ([]int, api.Errno) {
	t, err := examine(r)
	if err = cmp.Or(err, inRange(isDay(at) && isDay(before) && isDay(after))); err != api.OK {
		return nil, err
	}
	old, later := t.stateKnown(r, at, before), t.stateKnown(r, at, after)
	var l []int
	for id := range r.Events {
		a, b := old.mark(id), later.mark(id)
		if (a == nil) != (b == nil) || a != nil && *a != *b {
			l = append(l, id)
		}
	}
	return l, api.OK
}

// checkId returns the error of r; ErrArg unless id is an id; ErrUnknown unless it is that of a mark.
func checkId(r api.Register, id int) api.Errno {
	return cmp.Or(Check(r), inRange(isId(id)), checkMark(r, id, api.MaxDay))
}

// checkMark returns ErrUnknown unless an event of r, as known on the day known, brings a mark with this id.
func checkMark(r api.Register, id, known int) api.Errno {
	if id < 0 || id >= len(r.Events) || !bringsMark(r.Events[id]) || r.Events[id].Known > known {
		return api.ErrUnknown
	}
	return api.OK
}

// lineOf returns the ids from which a mark of a valid register was split; none for what is no mark.
func lineOf(r api.Register, id int) []int {
	var l []int
	for e := r.Events[id]; e.Kind == api.SplitE; e = r.Events[e.Id] {
		l = append(l, e.Id)
	}
	return l
}

// longest returns spans, each of which ends where the next one begins, without empty ones, and joined where neighbours have the same flock.
func longest(l []api.Span) []api.Span {
	var joined []api.Span
	for _, x := range l {
		last := len(joined) - 1
		switch {
		case x.From == x.To:
		case last >= 0 && joined[last].Flock == x.Flock:
			joined[last].To = x.To
		default:
			joined = append(joined, x)
		}
	}
	return joined
}
