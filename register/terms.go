package register

import (
	"cmp"
	"slices"

	"earmark/api"
	"earmark/fell"
	"earmark/knife"
)

// terms are what decides which marks of a register are in each other's way: the fold of each grazing, the budget, and what has been found out about pairs of marks. The ids of the marks are less than size, also with one more event.
type terms struct {
	folds  [api.MaxGrazings]int
	budget api.Budget
	size   int
	pairs  []pair
}

// pair is what is known of two marks.
type pair uint8

const (
	unknown pair = iota
	apart
	clashing
)

// termsOf returns the terms of a register whose fell and budget are valid, and that has no more events than it may.
func termsOf(r api.Register) *terms {
	size := len(r.Events) + 1
	t := &terms{budget: r.Budget, size: size, pairs: make([]pair, size*size)}
	folds, _ := fell.Folds(r.Fell)
	for i, fold := range folds {
		for _, grazing := range fold {
			t.folds[grazing] = i
		}
	}
	return t
}

// clash reports whether the mark of u and that of h clash.
func (t *terms) clash(u use, h *api.Held) bool {
	p := &t.pairs[min(u.id, h.Id)*t.size+max(u.id, h.Id)]
	if *p == unknown {
		*p = t.compare(u.mark, h.Mark)
	}
	return *p == clashing
}

func (t *terms) compare(m, n api.Mark) pair {
	if is, _ := knife.Apart(m, n, t.budget); is {
		return apart
	}
	return clashing
}

// allow reports whether, for each of some events, all up to and including it are possible in the order of At, then No. What comes before it in this order is as it was without it; only what comes behind is tried again.
func (t *terms) allow(events []api.Event) bool {
	var l []api.Event
	s := t.stateOf(nil)
	for _, e := range events {
		at, _ := slices.BinarySearchFunc(l, e.At+1, func(x api.Event, day int) int { return cmp.Compare(x.At, day) })
		l = slices.Insert(l, at, e)
		if at < len(l)-1 {
			s = t.stateOf(l[:at])
		}
		if s.walk(l[at:]...) != api.OK {
			return false
		}
	}
	return true
}

// stateOf returns the state that events make that are possible one after the other.
func (t *terms) stateOf(l []api.Event) *state {
	s := &state{table: make(table, t.size), terms: t}
	for _, e := range l {
		s.do(e)
	}
	return s
}
