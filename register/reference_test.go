package register_test

import (
	"maps"
	"slices"
	"sort"
	"sync"
	"testing"

	"earmark/api"
	"earmark/ear"
	"earmark/knife"
	"earmark/register"
)

// The tests compare the package with a plain reading of the chapter: states are maps, each beginning of a register is gone through from its first day, and folds are found by going through all gates again and again. What knives and weather make of marks is taken from package knife.

// held is a state: the marks that are there, by their ids.
type held map[int]api.Held

func (s held) ids(wanted func(api.Held) bool) []int {
	var l []int
	for _, id := range slices.Sorted(maps.Keys(s)) {
		if wanted(s[id]) {
			l = append(l, id)
		}
	}
	return l
}

// list returns the marks by increasing id.
func (s held) list() []api.Held {
	var l []api.Held
	for _, id := range slices.Sorted(maps.Keys(s)) {
		l = append(l, s[id])
	}
	return l
}

// onFold reports whether two grazings are in one fold.
func onFold(f api.Fell, a, b int) bool {
	at := map[int]bool{a: true}
	for range f.Grazings {
		for _, g := range f.Gates {
			if g.From != g.To && (at[g.A] || at[g.B]) {
				at[g.A], at[g.B] = true, true
			}
		}
	}
	return at[b]
}

type question struct {
	m, n api.Mark
	b    api.Budget
}

var answers sync.Map

// clash reports whether two marks clash.
func clash(m, n api.Mark, b api.Budget) bool {
	q := question{m, n, b}
	if is, ok := answers.Load(q); ok {
		return is.(bool)
	}
	_, is, err := knife.Clash(m, n, b)
	if err != api.OK {
		panic("knife.Clash returns an error")
	}
	answers.Store(q, is)
	return is
}

// inUse returns the ids of the marks in use on the fold of a grazing.
func (s held) inUse(r api.Register, grazing int) []int {
	return s.ids(func(h api.Held) bool { return !h.Rests && onFold(r.Fell, h.Grazing, grazing) })
}

// rivals returns the ids of the marks in use on the fold of a grazing that clash with m.
func (s held) rivals(r api.Register, m api.Mark, grazing int) []int {
	return slices.DeleteFunc(s.inUse(r, grazing), func(id int) bool { return !clash(m, s[id].Mark, r.Budget) })
}

// entering returns the mark that e brings into use, a grazing of the fold on which it does, and whether it brings one; the error is ErrUnknown or ErrOwner, if one of them applies.
func (s held) entering(r api.Register, e api.Event) (api.Mark, int, bool, api.Errno) {
	if e.Kind == api.AdmitE {
		return e.Mark, e.Grazing, true, api.OK
	}
	h, ok := s[e.Id]
	if !ok {
		return api.Mark{}, 0, false, api.ErrUnknown
	}
	near, _ := knife.Can(h.Mark.Near, e.Mark.Near)
	far, _ := knife.Can(h.Mark.Far, e.Mark.Far)
	owner := map[int]bool{
		api.SellE:   h.Flock == e.Flock,
		api.SplitE:  h.Rests || h.Flock == e.Flock || !near || !far,
		api.RestE:   h.Rests,
		api.ResumeE: !h.Rests,
		api.MoveE:   h.Grazing == e.Grazing,
	}
	if owner[e.Kind] {
		return api.Mark{}, 0, false, api.ErrOwner
	}
	switch e.Kind {
	case api.SplitE:
		return e.Mark, h.Grazing, true, api.OK
	case api.ResumeE:
		return h.Mark, h.Grazing, true, api.OK
	case api.MoveE:
		return h.Mark, e.Grazing, !h.Rests && !onFold(r.Fell, h.Grazing, e.Grazing), api.OK
	}
	return api.Mark{}, 0, false, api.OK
}

// problem returns the error with which e is not possible.
func (s held) problem(r api.Register, e api.Event) api.Errno {
	m, grazing, brings, err := s.entering(r, e)
	if err == api.OK && brings && len(s.rivals(r, m, grazing)) > 0 {
		return api.ErrRefused
	}
	return err
}

// do does an event that is possible.
func (s held) do(e api.Event) {
	h := s[e.Id]
	switch e.Kind {
	case api.AdmitE:
		h = api.Held{Id: e.No, Mark: e.Mark, Flock: e.Flock, Grazing: e.Grazing, From: -1}
	case api.SellE:
		h.Flock = e.Flock
	case api.SplitE:
		h = api.Held{Id: e.No, Mark: e.Mark, Flock: e.Flock, Grazing: h.Grazing, From: h.Id}
	case api.RestE:
		h.Rests = true
	case api.ResumeE:
		h.Rests = false
	case api.MoveE:
		h.Grazing = e.Grazing
	}
	s[h.Id] = h
}

// sorted returns events in the order of At, then No.
func sorted(l []api.Event) []api.Event {
	l = slices.Clone(l)
	sort.Slice(l, func(i, j int) bool { return l[i].At < l[j].At || l[i].At == l[j].At && l[i].No < l[j].No })
	return l
}

// stateOf returns the state for the days at and known.
func stateOf(r api.Register, at, known int) held {
	s := held{}
	for _, e := range sorted(r.Events) {
		if e.At <= at && e.Known <= known {
			s.do(e)
		}
	}
	return s
}

// firstProblem returns the error of the first event that is not possible, of all in the order of At, then No.
func firstProblem(r api.Register) api.Errno {
	s := held{}
	for _, e := range sorted(r.Events) {
		if err := s.problem(r, e); err != api.OK {
			return err
		}
		s.do(e)
	}
	return api.OK
}

// isValid reports whether r, whose fell and budget are valid and whose events are well-formed, is valid.
func isValid(r api.Register) bool {
	if len(r.Events) > 256 {
		return false
	}
	for i, e := range r.Events {
		if e.No != i || i > 0 && e.Known < r.Events[i-1].Known {
			return false
		}
		if firstProblem(api.Register{Fell: r.Fell, Budget: r.Budget, Events: r.Events[:i+1]}) != api.OK {
			return false
		}
	}
	return true
}

// with returns r with events besides.
func with(r api.Register, events ...api.Event) api.Register {
	r.Events = slices.Concat(r.Events, events)
	return r
}

// tried returns what Try should return for a valid register and a well-formed event.
func tried(r api.Register, e api.Event) (api.Refusal, api.Errno) {
	if len(r.Events) == 256 {
		return api.Refusal{}, api.ErrLimit
	}
	if e.No != len(r.Events) || len(r.Events) > 0 && e.Known < r.Events[len(r.Events)-1].Known {
		return api.Refusal{}, api.ErrOrder
	}
	s := stateOf(r, e.At, api.MaxDay)
	err := s.problem(r, e)
	if err == api.ErrRefused {
		m, grazing, _, _ := s.entering(r, e)
		x := api.Refusal{Id: s.rivals(r, m, grazing)[0]}
		other := s[x.Id].Mark
		x.Shape, _, _ = knife.Clash(m, other, r.Budget)
		x.New, _, _ = knife.Way(m, x.Shape, r.Budget)
		x.Old, _, _ = knife.Way(other, x.Shape, r.Budget)
		return x, err
	}
	if err == api.OK && firstProblem(with(r, e)) != api.OK {
		err = api.ErrOrder
	}
	return api.Refusal{}, err
}

func sameRefusal(x, y api.Refusal) bool {
	return x.Id == y.Id && x.Shape == y.Shape && slices.Equal(x.New, y.New) && slices.Equal(x.Old, y.Old)
}

func sameFell(f, g api.Fell) bool {
	return f.Grazings == g.Grazings && slices.Equal(f.Gates, g.Gates)
}

func sameRegister(r, s api.Register) bool {
	return sameFell(r.Fell, s.Fell) && r.Budget == s.Budget && slices.Equal(r.Events, s.Events)
}

func markOf(s string) api.Mark {
	m, _, err := ear.ParseMark(s)
	if err != api.OK {
		panic(s)
	}
	return m
}

func budget(steps, cuts int) api.Budget { return api.Budget{Weather: steps, Cuts: cuts} }

// eventOf returns the event with a text.
func eventOf(s string) api.Event {
	e, err := register.ParseEvent(s)
	if err != api.OK {
		panic(s)
	}
	return e
}

// registerOf returns the register with these events, whose numbers are left out of their texts, and checks that each of them can be appended.
func registerOf(t *testing.T, f api.Fell, b api.Budget, events ...api.Event) api.Register {
	t.Helper()
	r, err := register.New(f, b)
	if err != api.OK {
		t.Fatal(err)
	}
	for i, e := range events {
		e.No = i
		if r, err = register.Append(r, e); err != api.OK {
			t.Fatal(i, e, err)
		}
	}
	return r
}

// at returns e with other days.
func at(day, known int, e api.Event) api.Event {
	e.At, e.Known = day, known
	return e
}

func admit(m api.Mark, flock, grazing int) api.Event {
	return api.Event{Kind: api.AdmitE, Mark: m, Flock: flock, Grazing: grazing}
}

func sell(id, flock int) api.Event { return api.Event{Kind: api.SellE, Id: id, Flock: flock} }

func split(id int, m api.Mark, flock int) api.Event {
	return api.Event{Kind: api.SplitE, Id: id, Mark: m, Flock: flock}
}

func rest(id int) api.Event { return api.Event{Kind: api.RestE, Id: id} }

func resume(id int) api.Event { return api.Event{Kind: api.ResumeE, Id: id} }

func move(id, grazing int) api.Event {
	return api.Event{Kind: api.MoveE, Id: id, Grazing: grazing}
}

// number returns e with another number.
func number(no int, e api.Event) api.Event {
	e.No = no
	return e
}

// dice are numbers that look thrown, the same ones in each run.
type dice uint64

func (d *dice) throw(n int) int {
	*d = *d*6364136223846793005 + 1442695040888963407
	return int(uint64(*d)>>33) % n
}

// folds3 is a fell whose folds are {0, 1}, {2, 3} and {4}: the gate between 1 and 2 is never open.
func folds3() api.Fell {
	return api.Fell{Grazings: 5, Gates: []api.Gate{{A: 0, B: 1, From: 100, To: 200}, {A: 1, B: 2, From: 7, To: 7}, {A: 2, B: 3, From: 300, To: 20}, {A: 0, B: 1, From: 0, To: 0}}}
}

// someMarks are marks many of which clash, and many of which can be cut out of others.
func someMarks() []api.Mark {
	var l []api.Mark
	for _, s := range []string{
		"near: whole; far: whole",
		"near: upper notch 1; far: whole",
		"near: upper bit 1; far: whole",
		"near: upper key 1; far: whole",
		"near: upper key 1; far: forked",
		"near: cropped, upper key 1; far: whole",
		"near: cropped, upper key 1; far: forked",
		"near: slit; far: whole",
		"near: forked; far: whole",
		"near: forked; far: lower bit 0",
		"near: hole 1; far: lower bit 0",
		"near: upper bit 1; far: lower bit 0, lower bit 2",
		"near: forked, upper key 1; far: hollowed, lower key 0, lower bit 2",
		"near: whole; far: hollowed, lower key 0, hole 2",
	} {
		l = append(l, markOf(s))
	}
	return l
}

// thrown returns an event that may or may not be possible.
func thrown(d *dice, r api.Register, days int) api.Event {
	n := len(r.Events)
	kinds := [...]int{api.AdmitE, api.SellE, api.SellE, api.SplitE, api.SplitE, api.SplitE, api.SplitE, api.RestE, api.ResumeE, api.MoveE}
	e := api.Event{No: n, Kind: kinds[d.throw(len(kinds))], At: d.throw(days), Known: d.throw(3)}
	if n > 0 {
		e.Known += r.Events[n-1].Known
	}
	if e.Kind != api.AdmitE {
		e.Id = d.throw(n + 1)
	}
	switch e.Kind {
	case api.AdmitE, api.SplitE:
		l := someMarks()
		e.Mark = l[d.throw(len(l))]
		e.Flock = d.throw(4)
		if e.Kind == api.AdmitE {
			e.Grazing = d.throw(r.Fell.Grazings)
		}
	case api.SellE:
		e.Flock = d.throw(4)
	case api.MoveE:
		e.Grazing = d.throw(r.Fell.Grazings)
	}
	return e
}

const someDays = 12

// someRegisters are valid registers with budgets of all sorts, made of the thrown events that the chapter lets pass.
var someRegisters = sync.OnceValue(func() []api.Register {
	var l []api.Register
	for i, b := range []api.Budget{budget(0, 0), budget(1, 0), budget(0, 1), budget(1, 1), budget(2, 0), budget(0, 0), budget(1, 0), budget(0, 1)} {
		d := dice(i + 1)
		r := api.Register{Fell: folds3(), Budget: b}
		for tries := 0; tries < 900 && len(r.Events) < 30; tries++ {
			e := thrown(&d, r, someDays)
			if _, err := tried(r, e); err == api.OK {
				r = with(r, e)
			}
		}
		l = append(l, r)
	}
	return l
})

// knownDays are days before, on and after which events of r were known.
func knownDays(r api.Register) []int {
	l := []int{0, api.MaxDay}
	for i, e := range r.Events {
		if i%4 == 0 {
			l = append(l, e.Known)
		}
	}
	return l
}
