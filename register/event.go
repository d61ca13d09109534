package register

import (
	"cmp"
	"slices"

	"earmark/api"
	"earmark/ear"
	"earmark/fell"
)

// kind tells how the events of a kind are written, and which fields they have.
type kind struct {
	word                     string
	id, flock, grazing, mark bool
}

var kinds = [...]kind{
	api.AdmitE:  {word: "admit", flock: true, grazing: true, mark: true},
	api.SellE:   {word: "sell", id: true, flock: true},
	api.SplitE:  {word: "split", id: true, flock: true, mark: true},
	api.RestE:   {word: "rest", id: true},
	api.ResumeE: {word: "resume", id: true},
	api.MoveE:   {word: "move", id: true, grazing: true},
}

// CheckEvent returns ErrEvent unless e is well-formed for a fell.
func CheckEvent(f api.Fell, e api.Event) api.Errno {
	if err := fell.Check(f); err != api.OK {
		return err
	}
	if !isWellFormed(f, e) {
		return api.ErrEvent
	}
	return api.OK
}

// isWellFormed reports whether e is well-formed for a valid fell. The zero value of each field is one that the field can have.
func isWellFormed(f api.Fell, e api.Event) bool {
	if e.Kind < api.AdmitE || e.Kind > api.MoveE || !isId(e.No) || !isDay(e.At) || !isDay(e.Known) {
		return false
	}
	has := kinds[e.Kind]
	return (e.Id == 0 || has.id && isId(e.Id)) &&
		(e.Flock == 0 || has.flock && isFlock(e.Flock)) &&
		(e.Grazing == 0 || has.grazing && isGrazing(f, e.Grazing)) &&
		(e.Mark == api.Mark{} || has.mark && ear.CheckMark(e.Mark) == api.OK)
}

// bringsMark reports whether a mark has the number of e as its id.
func bringsMark(e api.Event) bool { return e.Kind == api.AdmitE || e.Kind == api.SplitE }

// inOrder returns the wanted events of a register in the order of At, then No.
func inOrder(r api.Register, wanted func(api.Event) bool) []api.Event {
	var l []api.Event
	for _, e := range r.Events {
		if wanted(e) {
			l = append(l, e)
		}
	}
	slices.SortStableFunc(l, func(a, b api.Event) int { return cmp.Compare(a.At, b.At) })
	return l
}
