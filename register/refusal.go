package register

import (
	"cmp"

	"earmark/api"
	"earmark/knife"
)

// Try returns the error with which e cannot continue r; with ErrRefused the reason.
func Try(r api.Register, e api.Event) (api.Refusal, api.Errno) {
	t, err := examine(r)
	if err = cmp.Or(err, CheckEvent(r.Fell, e), checkNext(r.Events, e)); err != api.OK {
		return api.Refusal{}, err
	}
	s := t.stateBefore(r, e)
	err = s.walk(e)
	if err == api.ErrRefused {
		return s.refusal(e), err
	}
	if err != api.OK {
		return api.Refusal{}, err
	}
	later := inOrder(r, func(x api.Event) bool { return x.At > e.At })
	if s.walk(later...) != api.OK {
		return api.Refusal{}, api.ErrOrder
	}
	return api.Refusal{}, api.OK
}

// CheckRefusal reports whether x proves that e is refused.
func CheckRefusal(r api.Register, e api.Event, x api.Refusal) (bool, api.Errno) {
	t, err := examine(r)
	if err = cmp.Or(err, CheckEvent(r.Fell, e)); err != api.OK {
		return false, err
	}
	return t.stateBefore(r, e).accepts(e, x), api.OK
}

// stateBefore returns the state that the events of a valid register make as far as they hold by the day of e.
func (t *terms) stateBefore(r api.Register, e api.Event) *state {
	return t.stateOf(inOrder(r, func(x api.Event) bool { return x.At <= e.At }))
}

// refusal returns why e is refused, which it is.
func (s *state) refusal(e api.Event) api.Refusal {
	u, _, _ := s.brought(e)
	h := s.rival(u)
	shape, _, _ := knife.Clash(u.mark, h.Mark, s.budget)
	ours, _, _ := knife.Way(u.mark, shape, s.budget)
	theirs, _, _ := knife.Way(h.Mark, shape, s.budget)
	return api.Refusal{Id: h.Id, Shape: shape, New: ours, Old: theirs}
}

// accepts reports whether x shows a clash of the mark that e brings into use with one that is in use on its fold.
func (s *state) accepts(e api.Event, x api.Refusal) bool {
	u, brings, _ := s.brought(e)
	if !brings {
		return false
	}
	for h := range s.inUse(u.fold) {
		if h.Id == x.Id {
			return s.leads(u.mark, x.Shape, x.New) && s.leads(h.Mark, x.Shape, x.Old)
		}
	}
	return false
}

// leads reports whether l is a way from m to a shape within the budget.
func (s *state) leads(m, shape api.Mark, l []api.Change) bool {
	return knife.CheckWay(m, shape, s.budget, l) == api.OK
}
