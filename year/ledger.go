package year

import (
	"slices"

	"earmark/api"
	"earmark/register"
)

// noId is the id of a mark that the register does not have.
const noId = -1

// ledger is a register that is made of deeds, with the entry of each of its events, and the events that were refused.
type ledger struct {
	register api.Register
	by       []name
	refused  []api.Event
}

// ledger returns the ledger of a parish whose book is open.
func (y *Year) ledger(parish int) ledger { return y.ledgerOf(y.view(parish)) }

// ledgerOf returns the ledger of what counts.
func (y *Year) ledgerOf(v view) ledger {
	var g ledger
	g.register, _ = register.New(y.fell, y.budget)
	g.enter(v.deeds)
	return g
}

// enter appends the events of deeds, one after the other, as far as they are not refused. A register is valid exactly if each of its events could be appended to those before it; so one check tells that none of them is refused, and otherwise each half of them is entered for itself.
func (g *ledger) enter(l []noted) {
	switch {
	case len(l) == 0 || g.append(l):
	case len(l) == 1:
		g.refused = append(g.refused, g.event(l[0]))
	default:
		half := len(l) / 2
		g.enter(l[:half])
		g.enter(l[half:])
	}
}

// append appends the events of deeds, unless one of them would be refused, and reports whether it has. What a longer ledger that is given up has in the memory of g lies behind the ends of its lists.
func (g *ledger) append(l []noted) bool {
	longer := *g
	for _, d := range l {
		e := longer.event(d)
		longer.register.Events = append(longer.register.Events, e)
		longer.by = append(longer.by, d.by)
	}
	if register.Check(longer.register) != api.OK {
		return false
	}
	*g = longer
	return true
}

// event returns the event of a deed that is tried next. If there is no mark that it is about, no register has its Id.
func (g *ledger) event(d noted) api.Event {
	e := api.Event{No: len(g.by), Kind: d.kind, At: d.at, Known: d.day, Mark: d.mark, Flock: d.flock, Grazing: d.grazing}
	if d.kind != api.AdmitE {
		e.Id = g.id(d.about)
	}
	return e
}

// id returns the id of the mark that an entry brought into the register; noId if there is none.
func (g *ledger) id(brought name) int {
	id := slices.Index(g.by, brought)
	if id < 0 {
		return noId
	}
	switch g.register.Events[id].Kind {
	case api.AdmitE, api.SplitE:
		return id
	}
	return noId
}
