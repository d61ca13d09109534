package knife

import (
	"iter"

	"earmark/api"
)

// row describes a kind of cuts: how many values Edge and At can have (1 if the kind has none, which leaves only 0), which values To can have, what a cut makes of a valid ear and whether it applies to it, and how it is written.
type row struct {
	edges, ats  int
	first, last int
	makes       func(e api.Ear, c api.Cut) (api.Ear, bool)
	notation    func(c api.Cut) string
}

// rows returns the rows of all kinds, each at the index of its kind.
func rows() [api.OpenC + 1]row {
	return [...]row{
		api.TipC:   {1, 1, api.Slit, api.Cropped, cutTip, tipNotation},
		api.EdgeC:  {2, api.Slots, api.Notch, api.Key, cutEdge, edgeNotation},
		api.PunchC: {1, api.Spots, 0, 0, punch, punchNotation},
		api.OpenC:  {2, api.Spots, 0, 0, open, openNotation},
	}
}

// has reports whether the fields of c other than its Kind are as the row says.
func (r row) has(c api.Cut) bool {
	return c.Edge >= 0 && c.Edge < r.edges && c.At >= 0 && c.At < r.ats && c.To >= r.first && c.To <= r.last
}

// cuts yields all well-formed cuts of a kind in their order.
func (r row) cuts(kind int) iter.Seq[api.Cut] {
	return func(yield func(api.Cut) bool) {
		for edge := range r.edges {
			for at := range r.ats {
				for to := r.first; to <= r.last; to++ {
					if !yield(api.Cut{Kind: kind, Edge: edge, At: at, To: to}) {
						return
					}
				}
			}
		}
	}
}

// successors yields the cuts that apply to a valid ear, in their order, and what each of them makes of it.
func successors(e api.Ear) iter.Seq2[api.Cut, api.Ear] {
	return func(yield func(api.Cut, api.Ear) bool) {
		for kind, r := range rows() {
			for c := range r.cuts(kind) {
				if made, ok := r.makes(e, c); ok && !yield(c, made) {
					return
				}
			}
		}
	}
}

func cutTip(e api.Ear, c api.Cut) (api.Ear, bool) {
	if e.Tip >= c.To {
		return e, false
	}
	e.Tip = c.To
	if takesLastSlots(c.To) {
		e.Upper[api.Slots-1], e.Lower[api.Slots-1] = api.Uncut, api.Uncut
	}
	return e, true
}

func cutEdge(e api.Ear, c api.Cut) (api.Ear, bool) {
	slots := edgeOf(&e, c.Edge)
	if slots[c.At] >= c.To {
		return e, false
	}
	if slots[c.At] == api.Uncut && (cutBeside(slots, c.At) || c.At == api.Slots-1 && takesLastSlots(e.Tip)) {
		return e, false
	}
	slots[c.At] = c.To
	return e, true
}

func punch(e api.Ear, c api.Cut) (api.Ear, bool) {
	if e.Holes[c.At] || e.Upper[c.At] == api.Key || e.Lower[c.At] == api.Key {
		return e, false
	}
	e.Holes[c.At] = true
	return e, true
}

func open(e api.Ear, c api.Cut) (api.Ear, bool) {
	slots := edgeOf(&e, c.Edge)
	if !e.Holes[c.At] || cutBeside(slots, c.At) {
		return e, false
	}
	e.Holes[c.At] = false
	slots[c.At] = opened(slots[c.At])
	return e, true
}

// opened returns what a slot becomes if a hole is opened to it.
func opened(slot int) int {
	if slot == api.Uncut {
		return api.Bit
	}
	return api.Key
}

// takesLastSlots reports whether an ear with this tip has lost the last slots of its edges.
func takesLastSlots(tip int) bool { return tip >= api.Hollowed }

// cutBeside reports whether a neighbour of a slot is cut.
func cutBeside(slots *[api.Slots]int, at int) bool {
	return at > 0 && slots[at-1] != api.Uncut || at+1 < api.Slots && slots[at+1] != api.Uncut
}

// edgeOf returns the slots of an edge of e.
func edgeOf(e *api.Ear, edge int) *[api.Slots]int {
	if edge == api.UpperEdge {
		return &e.Upper
	}
	return &e.Lower
}
