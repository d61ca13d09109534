package register_test

import (
	"slices"
	"testing"

	"earmark/api"
	"earmark/register"
)

const (
	least = -1 << 63
	most  = 1<<63 - 1
)

func badFells() []api.Fell {
	gate := api.Gate{A: 0, B: 1, From: 5, To: 6}
	return []api.Fell{
		{}, {Grazings: -1}, {Grazings: 17}, {Grazings: 1, Gates: []api.Gate{gate}}, {Grazings: 2, Gates: slices.Repeat([]api.Gate{gate}, 33)},
		{Grazings: 2, Gates: []api.Gate{{A: 1, B: 1}}}, {Grazings: 2, Gates: []api.Gate{{A: 1, B: 0}}}, {Grazings: 2, Gates: []api.Gate{gate, {A: 0, B: 1, To: 360}}},
	}
}

func badBudgets() []api.Budget {
	return []api.Budget{budget(-1, 0), budget(0, -1), budget(4, 0), budget(0, 4), budget(2, 2), budget(-1, 2), budget(most, most), budget(least, least)}
}

// badMarks are marks one of whose ears is not valid.
func badMarks() []api.Mark {
	var l []api.Mark
	for _, e := range []api.Ear{
		{Tip: 5}, {Tip: -1}, {Upper: [4]int{0, 4}}, {Lower: [4]int{-1}}, {Upper: [4]int{1, 1}}, {Tip: api.Cropped, Lower: [4]int{0, 0, 0, 1}}, {Tip: most},
	} {
		l = append(l, api.Mark{Near: e}, api.Mark{Far: e})
	}
	return l
}

// P5.1
func TestNew(t *testing.T) {
	f := folds3()
	r, err := register.New(f, budget(1, 2))
	if !sameFell(r.Fell, f) || r.Budget != budget(1, 2) || len(r.Events) != 0 || err != api.OK {
		t.Error(r, err)
	}
	if r, err := register.New(api.Fell{Grazings: 1}, api.Budget{}); r.Fell.Grazings != 1 || err != api.OK {
		t.Error(r, err)
	}
	for _, bad := range badFells() {
		for _, b := range append(badBudgets(), budget(1, 1)) {
			if r, err := register.New(bad, b); !sameRegister(r, api.Register{}) || err != api.ErrFell {
				t.Error(bad, b, r, err)
			}
		}
	}
	for _, b := range badBudgets() {
		if r, err := register.New(f, b); !sameRegister(r, api.Register{}) || err != api.ErrBudget {
			t.Error(b, r, err)
		}
	}
}

// goodEvents are well-formed for a fell of 5 grazings: of each kind with the least and with the greatest values.
func goodEvents() []api.Event {
	m := markOf("near: slit, hole 1; far: cropped, upper key 0")
	l := []api.Event{
		admit(api.Mark{}, 0, 0), admit(m, 63, 4), sell(0, 0), sell(4095, 63), split(0, api.Mark{}, 0), split(4095, m, 63),
		rest(0), rest(4095), resume(0), resume(4095), move(0, 0), move(4095, 4),
	}
	for i, e := range l {
		if i%2 == 1 {
			e.No, e.At, e.Known = 4095, 1048576, 1048576
		}
		l[i] = e
	}
	return l
}

// badEvents are not well-formed for a fell of 5 grazings.
func badEvents() []api.Event {
	var l []api.Event
	bad := func(e api.Event, change func(e *api.Event, v int), values ...int) {
		for _, v := range values {
			x := e
			change(&x, v)
			l = append(l, x)
		}
	}
	for _, e := range goodEvents() {
		bad(e, func(e *api.Event, v int) { e.No = v }, least, -1, 4096, most)
		bad(e, func(e *api.Event, v int) { e.At = v }, least, -1, 1048577, most)
		bad(e, func(e *api.Event, v int) { e.Known = v }, least, -1, 1048577, most)
		bad(e, func(e *api.Event, v int) { e.Id = v }, least, -1, 4096, most)
		bad(e, func(e *api.Event, v int) { e.Flock = v }, least, -1, 64, most)
		bad(e, func(e *api.Event, v int) { e.Grazing = v }, least, -1, 5, most)
		for _, m := range badMarks() {
			bad(e, func(e *api.Event, _ int) { e.Mark = m }, 0)
		}
		switch e.Kind {
		case api.AdmitE:
			bad(e, func(e *api.Event, v int) { e.Id = v }, 1, 4095)
		case api.SellE:
			bad(e, func(e *api.Event, v int) { e.Grazing = v }, 1, 4)
		case api.SplitE:
			bad(e, func(e *api.Event, v int) { e.Grazing = v }, 1, 4)
		case api.MoveE:
			bad(e, func(e *api.Event, v int) { e.Flock = v }, 1, 63)
		default:
			bad(e, func(e *api.Event, v int) { e.Flock = v }, 1, 63)
			bad(e, func(e *api.Event, v int) { e.Grazing = v }, 1, 4)
		}
		if e.Kind != api.AdmitE && e.Kind != api.SplitE {
			bad(e, func(e *api.Event, v int) { e.Mark.Near.Tip = v }, 1)
			bad(e, func(e *api.Event, _ int) { e.Mark.Far.Holes[2] = true }, 0)
		}
	}
	for _, e := range []api.Event{{}, {No: 5, At: 6, Known: 7}} {
		bad(e, func(e *api.Event, v int) { e.Kind = v }, least, -1, 0, 7, most)
	}
	return l
}

// P5.1
func TestCheckEvent(t *testing.T) {
	f := folds3()
	for _, e := range goodEvents() {
		if err := register.CheckEvent(f, e); err != api.OK {
			t.Error(e, err)
		}
		want := api.OK
		if e.Grazing > 3 {
			want = api.ErrEvent
		}
		if err := register.CheckEvent(api.Fell{Grazings: 4}, e); err != want {
			t.Error(e, err)
		}
		for _, bad := range badFells() {
			if err := register.CheckEvent(bad, e); err != api.ErrFell {
				t.Error(bad, e, err)
			}
		}
	}
	for _, e := range badEvents() {
		if err := register.CheckEvent(f, e); err != api.ErrEvent {
			t.Error(e, err)
		}
		if err := register.CheckEvent(api.Fell{Grazings: 17}, e); err != api.ErrFell {
			t.Error(e, err)
		}
	}
}

// P5.1: the fell comes first, then the budget, then the events.
func TestCheckOrder(t *testing.T) {
	events := []api.Event{{Kind: 99}}
	for _, f := range badFells() {
		for _, b := range append(badBudgets(), budget(0, 0)) {
			if err := register.Check(api.Register{Fell: f, Budget: b, Events: events}); err != api.ErrFell {
				t.Error(f, b, err)
			}
		}
	}
	for _, b := range badBudgets() {
		if err := register.Check(api.Register{Fell: folds3(), Budget: b, Events: events}); err != api.ErrBudget {
			t.Error(b, err)
		}
	}
	if err := register.Check(api.Register{Fell: folds3(), Events: events}); err != api.ErrRegister {
		t.Error(err)
	}
	if err := register.Check(api.Register{}); err != api.ErrFell {
		t.Error(err)
	}
}

// numbered returns a register with these events, whether it is valid or not.
func numbered(b api.Budget, events ...api.Event) api.Register {
	for i := range events {
		events[i].No = i
	}
	return api.Register{Fell: folds3(), Budget: b, Events: events}
}

// P5.1: what events make possible, and what they do not.
func TestCheck(t *testing.T) {
	w, n, k := markOf("near: whole; far: whole"), markOf("near: upper notch 1; far: whole"), markOf("near: upper key 1; far: whole")
	step := budget(1, 0)
	for i, x := range []struct {
		r    api.Register
		want api.Errno
	}{
		{numbered(step), api.OK},
		{numbered(step, admit(w, 1, 0)), api.OK},
		{numbered(step, admit(w, 1, 0), at(5, 0, admit(k, 2, 1))), api.OK},
		{numbered(step, admit(w, 1, 0), at(5, 0, admit(n, 2, 1))), api.ErrRegister},
		{numbered(step, admit(w, 1, 0), at(5, 0, admit(n, 2, 2))), api.OK},
		{numbered(step, at(9, 0, admit(w, 1, 0)), at(5, 0, admit(n, 2, 1))), api.ErrRegister},
		{numbered(budget(0, 0), at(9, 0, admit(w, 1, 0)), at(5, 0, admit(n, 2, 1))), api.OK},
		// Known never decreases.
		{numbered(step, at(5, 3, admit(w, 1, 0)), at(1, 3, admit(k, 2, 0))), api.OK},
		{numbered(step, at(5, 3, admit(w, 1, 0)), at(6, 2, admit(k, 2, 0))), api.ErrRegister},
		// A mark that is not there yet, or not there at all.
		{numbered(step, at(5, 3, admit(w, 1, 0)), at(5, 3, sell(0, 2))), api.OK},
		{numbered(step, at(5, 3, admit(w, 1, 0)), at(4, 3, sell(0, 2))), api.ErrRegister},
		{numbered(step, at(5, 3, admit(w, 1, 0)), at(6, 3, sell(1, 2))), api.ErrRegister},
		{numbered(step, sell(0, 2)), api.ErrRegister},
		{numbered(step, split(0, k, 2)), api.ErrRegister},
		{numbered(step, at(5, 3, admit(w, 1, 0)), at(6, 3, sell(4095, 2))), api.ErrRegister},
		// The third event would make the second one possible; but that comes before it.
		{numbered(step, at(10, 0, admit(w, 1, 0)), at(30, 0, sell(2, 5)), at(5, 0, admit(k, 2, 4))), api.ErrRegister},
		{numbered(step, at(10, 0, admit(w, 1, 0)), at(20, 0, admit(n, 2, 1)), at(15, 0, rest(0))), api.ErrRegister},
		{numbered(step, at(10, 0, admit(w, 1, 0)), at(15, 0, rest(0)), at(20, 0, admit(n, 2, 1))), api.OK},
		// The third event makes the second one impossible.
		{numbered(step, at(10, 0, admit(w, 1, 0)), at(20, 0, rest(0)), at(15, 0, rest(0))), api.ErrRegister},
		{numbered(step, at(10, 0, admit(w, 1, 0)), at(20, 0, rest(0)), at(20, 0, rest(0))), api.ErrRegister},
		{numbered(step, at(10, 0, admit(w, 1, 0)), at(20, 0, rest(0)), at(20, 0, resume(0))), api.OK},
		{numbered(step, at(10, 0, admit(w, 1, 0)), at(20, 0, sell(0, 2)), at(15, 0, sell(0, 2))), api.ErrRegister},
		{numbered(step, at(10, 0, admit(w, 1, 0)), at(20, 0, sell(0, 2)), at(15, 0, sell(0, 3))), api.OK},
		{numbered(step, at(10, 0, admit(w, 1, 2)), at(20, 0, admit(n, 2, 0)), at(5, 0, move(0, 1))), api.ErrRegister},
		{numbered(step, at(10, 0, admit(w, 1, 2)), at(20, 0, admit(n, 2, 0)), at(15, 0, move(0, 1))), api.ErrRegister},
		{numbered(step, at(10, 0, admit(w, 1, 2)), at(20, 0, admit(n, 2, 0)), at(25, 0, move(0, 1))), api.ErrRegister},
		{numbered(step, at(10, 0, admit(w, 1, 2)), at(20, 0, admit(n, 2, 0)), at(15, 0, move(0, 4))), api.OK},
		// An event whose fields contradict its kind, or whose number is not its index.
		{api.Register{Fell: folds3(), Events: []api.Event{number(1, admit(w, 1, 0))}}, api.ErrRegister},
		{api.Register{Fell: folds3(), Events: []api.Event{admit(w, 1, 0), admit(k, 1, 0)}}, api.ErrRegister},
		{numbered(step, api.Event{Kind: api.AdmitE, Id: 1}), api.ErrRegister},
		{numbered(step, admit(w, 64, 0)), api.ErrRegister},
		{numbered(step, admit(w, 1, 5)), api.ErrRegister},
	} {
		if err := register.Check(x.r); err != x.want {
			t.Error(i, err)
		}
	}
}

// P5.1: of all beginnings of some registers (which are valid, P5.10), and of registers of which one event has been changed, exchanged or left out.
func TestCheckOfChangedRegisters(t *testing.T) {
	found := map[bool]int{}
	check := func(r api.Register) {
		t.Helper()
		valid := isValid(r)
		found[valid]++
		want := api.OK
		if !valid {
			want = api.ErrRegister
		}
		if err := register.Check(r); err != want {
			t.Fatal(r, err, want)
		}
	}
	for i, whole := range someRegisters() {
		d := dice(100 + i)
		for n := range whole.Events {
			r := whole
			r.Events = slices.Clone(whole.Events[:n])
			if err := register.Check(r); err != api.OK {
				t.Fatal(r, err)
			}
			for range 3 {
				changed := with(r, number(n, thrown(&d, r, someDays)))
				check(changed)
				if n < 2 {
					continue
				}
				changed.Events = slices.Clone(r.Events)
				a, b := d.throw(n), d.throw(n)
				changed.Events[a], changed.Events[b] = number(a, r.Events[b]), number(b, r.Events[a])
				check(changed)
				changed.Events = slices.Clone(r.Events)
				changed.Events[a].At = d.throw(someDays)
				check(changed)
				check(numberedAnew(r, slices.Delete(slices.Clone(r.Events), b, b+1)))
			}
		}
	}
	if found[true] < 200 || found[false] < 200 {
		t.Error(found)
	}
}

// numberedAnew returns r with other events, each of which gets its index as its number.
func numberedAnew(r api.Register, events []api.Event) api.Register {
	r.Events = events
	for i := range events {
		events[i].No = i
	}
	return r
}

// full is a valid register with 256 events, the last one of which admits a mark.
func full() api.Register {
	events := []api.Event{admit(api.Mark{}, 1, 0)}
	for i := range 254 {
		events = append(events, at(i+1, i, sell(0, 2+i%7)))
	}
	return numbered(budget(1, 0), append(events, at(3, 254, admit(markOf("near: upper key 1; far: whole"), 1, 0)))...)
}

// P5.1 and P5.2: as many events as there may be.
func TestFullRegister(t *testing.T) {
	r := full()
	if err := register.Check(r); err != api.OK || len(r.Events) != 256 {
		t.Error(err)
	}
	if h, err := register.Get(r, 255, 3, 254); h.Id != 255 || h.Grazing != 0 || h.From != -1 || err != api.OK {
		t.Error(h, err)
	}
	more := at(300, 300, sell(0, 1))
	if err := register.Check(with(r, number(256, more))); err != api.ErrRegister {
		t.Error(err)
	}
	for _, e := range []api.Event{number(256, more), more, number(256, at(300, 0, more)), number(256, admit(api.Mark{}, 0, 0)), number(256, sell(9, 9))} {
		if x, err := register.Try(r, e); !sameRefusal(x, api.Refusal{}) || err != api.ErrLimit {
			t.Error(e, err)
		}
		if got, err := register.Append(r, e); !sameRegister(got, api.Register{}) || err != api.ErrLimit {
			t.Error(e, err)
		}
	}
	if _, err := register.Try(r, number(256, sell(0, 64))); err != api.ErrEvent {
		t.Error(err)
	}
	r.Events = r.Events[:255]
	if _, err := register.Try(r, number(255, more)); err != api.OK {
		t.Error(err)
	}
}

// P5.1: marks that come later the earlier they hold, all of them on one fold.
func TestEarlierAndEarlierEvents(t *testing.T) {
	var events []api.Event
	for i := range 256 {
		var m api.Mark
		m.Near.Tip, m.Near.Upper[0], m.Near.Lower[0], m.Far.Upper[0] = i%4, i/4%4, i/16%4, i/64
		events = append(events, at(1000-i, i, admit(m, i%64, i%2)))
	}
	r := numbered(budget(0, 0), events...)
	if err := register.Check(r); err != api.OK {
		t.Error(err)
	}
	r.Events[255].Mark = r.Events[100].Mark
	if err := register.Check(r); err != api.ErrRegister {
		t.Error(err)
	}
}
