package register_test

import (
	"slices"
	"testing"

	"earmark/api"
	"earmark/knife"
	"earmark/register"
)

// exampleFell is that of the chapter's examples.
func exampleFell() api.Fell {
	return api.Fell{Grazings: 3, Gates: []api.Gate{{A: 0, B: 1, From: 100, To: 200}}}
}

// The marks of the chapter's examples.
var (
	markW = markOf("near: whole; far: whole")
	markN = markOf("near: upper notch 1; far: whole")
	markK = markOf("near: upper key 1; far: whole")
	markC = markOf("near: cropped, upper key 1; far: whole")
)

func way(l ...string) []api.Change {
	var changes []api.Change
	for _, s := range l {
		c, err := knife.Parse(s)
		if err != api.OK {
			panic(s)
		}
		changes = append(changes, c)
	}
	return changes
}

// checkTry checks what Try and Append return.
func checkTry(t *testing.T, r api.Register, e api.Event, want api.Refusal, failed api.Errno) {
	t.Helper()
	x, err := register.Try(r, e)
	if !sameRefusal(x, want) || err != failed {
		t.Fatal(e, x, err, want, failed)
	}
	made, err := register.Append(r, e)
	wanted := api.Register{}
	if failed == api.OK {
		wanted = with(r, e)
	}
	if !sameRegister(made, wanted) || err != failed {
		t.Fatal(e, made, err, failed)
	}
}

// P5.2, examples
func TestTryExamples(t *testing.T) {
	empty, _ := register.New(exampleFell(), budget(1, 0))
	checkTry(t, empty, at(10, 10, admit(markW, 1, 0)), api.Refusal{}, api.OK)
	r := registerOf(t, exampleFell(), budget(1, 0), at(10, 10, admit(markW, 1, 0)))
	if r.Events[0].No != 0 {
		t.Error(r)
	}
	next := func(e api.Event) api.Event { return number(1, at(20, 10, e)) }
	checkTry(t, r, next(admit(markN, 2, 1)), api.Refusal{Id: 0, Shape: markW, New: way("near weather shut upper 1")}, api.ErrRefused)
	checkTry(t, r, next(admit(markN, 2, 2)), api.Refusal{}, api.OK)
	checkTry(t, r, next(admit(markK, 2, 0)), api.Refusal{}, api.OK)
	checkTry(t, r, next(sell(0, 1)), api.Refusal{}, api.ErrOwner)
	checkTry(t, r, number(1, at(5, 10, rest(0))), api.Refusal{}, api.ErrUnknown)
	k := registerOf(t, exampleFell(), budget(1, 0), at(10, 10, admit(markK, 2, 0)))
	checkTry(t, k, next(admit(markC, 2, 1)), api.Refusal{Id: 0, Shape: markC, Old: way("near weather frost")}, api.ErrRefused)
	sold := registerOf(t, exampleFell(), budget(1, 0), at(10, 10, admit(markW, 1, 0)), at(30, 10, sell(0, 2)), at(40, 10, rest(0)))
	checkTry(t, sold, number(3, at(20, 10, rest(0))), api.Refusal{}, api.ErrOrder)
}

// P5.2: the error of each kind, and the first one that applies.
func TestTryErrors(t *testing.T) {
	bit, cut, forked := markOf("near: upper bit 1; far: whole"), markOf("near: upper key 1; far: forked"), markOf("near: forked, upper bit 1; far: whole")
	r := registerOf(t, folds3(), budget(0, 1),
		at(10, 0, admit(markW, 1, 0)),
		at(10, 0, rest(0)),
		at(10, 5, admit(markK, 2, 1)),
		at(10, 5, admit(markK, 3, 2)),
		at(10, 5, admit(forked, 4, 4)))
	key, tip := way("near cut upper 1 key"), way("far cut tip forked")
	for _, x := range []struct {
		e    api.Event
		want api.Refusal
		err  api.Errno
	}{
		{admit(bit, 1, 0), api.Refusal{Id: 2, Shape: markK, New: key}, api.ErrRefused},
		{admit(bit, 1, 1), api.Refusal{Id: 2, Shape: markK, New: key}, api.ErrRefused},
		{admit(bit, 1, 3), api.Refusal{Id: 3, Shape: markK, New: key}, api.ErrRefused},
		{admit(bit, 1, 4), api.Refusal{Id: 4, Shape: forked, New: way("near cut tip forked")}, api.ErrRefused},
		{admit(markW, 1, 0), api.Refusal{Id: 2, Shape: markK, New: key}, api.ErrRefused},
		{admit(markW, 1, 4), api.Refusal{}, api.OK},
		{admit(markOf("near: whole; far: cropped, lower bit 0"), 1, 0), api.Refusal{}, api.OK},
		{sell(5, 1), api.Refusal{}, api.ErrUnknown},
		{sell(1, 1), api.Refusal{}, api.ErrUnknown},
		{sell(4095, 1), api.Refusal{}, api.ErrUnknown},
		{sell(0, 1), api.Refusal{}, api.ErrOwner},
		{sell(0, 2), api.Refusal{}, api.OK},
		{sell(2, 1), api.Refusal{}, api.OK},
		{split(6, cut, 9), api.Refusal{}, api.ErrUnknown},
		{split(256, cut, 9), api.Refusal{}, api.ErrUnknown},
		{split(0, cut, 9), api.Refusal{}, api.ErrOwner},
		{split(2, cut, 2), api.Refusal{}, api.ErrOwner},
		{split(2, bit, 9), api.Refusal{}, api.ErrOwner},
		{split(4, markOf("near: forked, upper key 1; far: whole"), 4), api.Refusal{}, api.ErrOwner},
		{split(4, markOf("near: slit, upper key 1; far: lower bit 1"), 9), api.Refusal{}, api.ErrOwner},
		{split(3, cut, 9), api.Refusal{Id: 3, Shape: cut, Old: tip}, api.ErrRefused},
		{split(3, markK, 9), api.Refusal{Id: 3, Shape: markK}, api.ErrRefused},
		{split(3, markOf("near: forked, upper key 1; far: forked"), 9), api.Refusal{}, api.OK},
		{rest(5), api.Refusal{}, api.ErrUnknown},
		{rest(0), api.Refusal{}, api.ErrOwner},
		{rest(2), api.Refusal{}, api.OK},
		{resume(5), api.Refusal{}, api.ErrUnknown},
		{resume(2), api.Refusal{}, api.ErrOwner},
		{resume(0), api.Refusal{Id: 2, Shape: markK, New: key}, api.ErrRefused},
		{move(5, 0), api.Refusal{}, api.ErrUnknown},
		{move(2, 1), api.Refusal{}, api.ErrOwner},
		{move(2, 0), api.Refusal{}, api.OK},
		{move(3, 3), api.Refusal{}, api.OK},
		{move(2, 2), api.Refusal{Id: 3, Shape: markK}, api.ErrRefused},
		{move(3, 1), api.Refusal{Id: 2, Shape: markK}, api.ErrRefused},
		// A mark that rests is moved without being looked at.
		{move(0, 0), api.Refusal{}, api.ErrOwner},
		{move(0, 2), api.Refusal{}, api.OK},
	} {
		checkTry(t, r, number(5, at(10, 5, x.e)), x.want, x.err)
	}
}

// P5.2: a mark is taken up again, or moved, only if it is apart from those that have come into use meanwhile; the least of their ids is returned.
func TestTryOfRestedMarks(t *testing.T) {
	r := registerOf(t, folds3(), budget(1, 0),
		at(1, 0, admit(markN, 1, 0)),
		at(2, 0, admit(markOf("near: whole; far: lower notch 2"), 1, 3)),
		at(3, 0, rest(0)),
		at(4, 0, admit(markW, 2, 1)),
		at(5, 0, admit(markOf("near: upper notch 1, upper notch 3; far: whole"), 3, 0)))
	shut := way("near weather shut upper 1")
	checkTry(t, r, number(5, at(5, 0, resume(0))), api.Refusal{Id: 3, Shape: markW, New: shut}, api.ErrRefused)
	checkTry(t, r, number(5, at(3, 0, resume(0))), api.Refusal{}, api.ErrOrder)
	checkTry(t, r, number(5, at(2, 0, resume(0))), api.Refusal{}, api.ErrOwner)
	checkTry(t, r, number(5, at(4, 0, resume(0))), api.Refusal{Id: 3, Shape: markW, New: shut}, api.ErrRefused)
	checkTry(t, r, number(5, at(4, 0, move(1, 1))), api.Refusal{Id: 3, Shape: markW, New: way("far weather shut lower 2")}, api.ErrRefused)
	checkTry(t, r, number(5, at(3, 0, move(1, 1))), api.Refusal{}, api.ErrOrder)
	checkTry(t, r, number(5, at(4, 0, move(1, 4))), api.Refusal{}, api.OK)
	checkTry(t, r, number(5, at(6, 0, move(3, 2))), api.Refusal{Id: 1, Shape: markW, Old: way("far weather shut lower 2")}, api.ErrRefused)
	checkTry(t, r, number(5, at(6, 0, sell(0, 7))), api.Refusal{}, api.OK)
	checkTry(t, r, number(5, at(6, 0, move(0, 3))), api.Refusal{}, api.OK)
	moved := with(r, number(5, at(6, 0, move(0, 3))))
	checkTry(t, moved, number(6, at(6, 0, resume(0))), api.Refusal{Id: 1, Shape: markW, New: shut, Old: way("far weather shut lower 2")}, api.ErrRefused)
}

// P5.2: a number or a day that does not continue the register; these come behind ErrEvent, and before what is not possible.
func TestTryOutOfOrder(t *testing.T) {
	r := registerOf(t, folds3(), budget(1, 0), at(10, 7, admit(markW, 1, 0)), at(20, 9, sell(0, 2)))
	for _, e := range []api.Event{admit(markK, 1, 0), sell(0, 1), rest(3), sell(0, 2), admit(markN, 1, 1)} {
		for _, no := range []int{0, 1, 3, 4095} {
			checkTry(t, r, number(no, at(30, 9, e)), api.Refusal{}, api.ErrOrder)
		}
		for _, known := range []int{0, 7, 8} {
			checkTry(t, r, number(2, at(30, known, e)), api.Refusal{}, api.ErrOrder)
		}
	}
	checkTry(t, r, number(2, at(0, 9, admit(markK, 1, 0))), api.Refusal{}, api.OK)
	checkTry(t, r, number(2, at(0, 1048576, admit(markK, 1, 0))), api.Refusal{}, api.OK)
	checkTry(t, r, number(3, at(30, 8, api.Event{Kind: api.SellE, Mark: markK})), api.Refusal{}, api.ErrEvent)
	empty := numbered(budget(1, 0))
	checkTry(t, empty, admit(markW, 1, 0), api.Refusal{}, api.OK)
	checkTry(t, empty, number(1, admit(markW, 1, 0)), api.Refusal{}, api.ErrOrder)
	checkTry(t, empty, sell(0, 1), api.Refusal{}, api.ErrUnknown)
}

// P5.2: an event that holds on the same day as others comes behind them.
func TestTryOnTheSameDay(t *testing.T) {
	r := registerOf(t, folds3(), budget(1, 0), at(10, 0, admit(markW, 1, 0)), at(10, 0, rest(0)), at(10, 0, admit(markN, 1, 0)))
	checkTry(t, r, number(3, at(10, 0, rest(0))), api.Refusal{}, api.ErrOwner)
	checkTry(t, r, number(3, at(10, 0, resume(0))), api.Refusal{Id: 2, Shape: markW, Old: way("near weather shut upper 1")}, api.ErrRefused)
	checkTry(t, r, number(3, at(10, 0, rest(2))), api.Refusal{}, api.OK)
	r = with(r, number(3, at(10, 0, rest(2))))
	checkTry(t, r, number(4, at(10, 0, resume(0))), api.Refusal{}, api.OK)
}

// P5.2 and P5.9: of thrown events, against the plain reading.
func TestTryOfThrownEvents(t *testing.T) {
	found := map[api.Errno]int{}
	for i, r := range someRegisters() {
		d := dice(200 + i)
		for n := 0; n <= len(r.Events); n += 3 {
			part := r
			part.Events = r.Events[:n]
			for range 40 {
				e := thrown(&d, part, someDays)
				want, err := tried(part, e)
				found[err]++
				checkTry(t, part, e, want, err)
				checkRefusals(t, part, e, want, err)
			}
		}
	}
	for _, err := range []api.Errno{api.OK, api.ErrRefused, api.ErrOwner, api.ErrUnknown, api.ErrOrder} {
		if found[err] < 100 {
			t.Error(found)
		}
	}
}

// checkRefusals checks CheckRefusal of an event with what Try returns, and with a clash or its likeness with each mark that there is.
func checkRefusals(t *testing.T, r api.Register, e api.Event, tried api.Refusal, failed api.Errno) {
	t.Helper()
	accepts := func(x api.Refusal) bool {
		is, err := register.CheckRefusal(r, e, x)
		if err != api.OK {
			t.Fatal(e, err)
		}
		return is
	}
	if accepts(tried) != (failed == api.ErrRefused) {
		t.Fatal(e, tried, failed)
	}
	s := stateOf(r, e.At, api.MaxDay)
	m, grazing, brings, _ := s.entering(r, e)
	if !brings {
		m = e.Mark
	}
	any := false
	for id, h := range s {
		x := api.Refusal{Id: id}
		var ok bool
		if x.Shape, ok, _ = knife.Clash(m, h.Mark, r.Budget); !ok {
			continue
		}
		x.New, _, _ = knife.Way(m, x.Shape, r.Budget)
		x.Old, _, _ = knife.Way(h.Mark, x.Shape, r.Budget)
		want := brings && slices.Contains(s.inUse(r, grazing), id)
		any = any || want
		if accepts(x) != want {
			t.Fatal(e, x, want)
		}
	}
	if any != (failed == api.ErrRefused) {
		t.Fatal(e, failed)
	}
}

// P5.2: what CheckRefusal accepts.
func TestCheckRefusal(t *testing.T) {
	r := registerOf(t, folds3(), budget(1, 1),
		at(10, 0, admit(markW, 1, 0)),
		at(10, 0, admit(markOf("near: forked, upper key 1; far: forked, lower key 0"), 1, 1)),
		at(10, 0, admit(markW, 2, 2)),
		at(20, 0, rest(0)))
	shut, frost, crop := way("near weather shut upper 1"), way("near weather frost"), way("near cut tip cropped")
	cropped := markOf("near: cropped; far: whole")
	e := at(10, 0, admit(markN, 3, 1))
	for i, x := range []struct {
		e    api.Event
		x    api.Refusal
		want bool
	}{
		{e, api.Refusal{Shape: markW, New: shut}, true},
		{at(19, 0, e), api.Refusal{Shape: markW, New: shut}, true},
		// Before the mark was admitted, and from when it rests.
		{at(9, 0, e), api.Refusal{Shape: markW, New: shut}, false},
		{at(20, 0, e), api.Refusal{Shape: markW, New: shut}, false},
		// No and Known do not matter.
		{number(4095, at(10, 1048576, e)), api.Refusal{Shape: markW, New: shut}, true},
		{number(2, e), api.Refusal{Shape: markW, New: shut}, true},
		// Another shape, and ways that are not the least ones.
		{e, api.Refusal{Shape: markN, Old: way("near cut upper 1 notch")}, true},
		{e, api.Refusal{Shape: cropped, New: append(way("near weather shut upper 1"), crop...), Old: frost}, true},
		{e, api.Refusal{Shape: cropped, New: append(way("near weather shut upper 1"), crop...), Old: crop}, true},
		{e, api.Refusal{Shape: cropped, New: append(way("near weather shut upper 1"), frost...), Old: crop}, false},
		{e, api.Refusal{Shape: cropped, New: shut, Old: crop}, false},
		{e, api.Refusal{Shape: cropped, New: append(way("near weather shut upper 1"), crop...)}, false},
		{e, api.Refusal{Shape: markW, Old: shut}, false},
		{e, api.Refusal{Shape: markW, New: shut, Old: shut}, false},
		{e, api.Refusal{Shape: markW}, false},
		{e, api.Refusal{Shape: markN}, false},
		{e, api.Refusal{Shape: markK, New: shut}, false},
		{e, api.Refusal{Shape: markW, New: []api.Change{{}}}, false},
		{e, api.Refusal{Shape: badMarks()[0], New: shut}, false},
		{e, api.Refusal{Shape: badMarks()[1], New: shut}, false},
		// A mark on another fold, no mark at all.
		{e, api.Refusal{Id: 2, Shape: markW, New: shut}, false},
		{e, api.Refusal{Id: 1, Shape: markW, New: shut}, false},
		{e, api.Refusal{Id: 3, Shape: markW, New: shut}, false},
		{e, api.Refusal{Id: 4, Shape: markW, New: shut}, false},
		{e, api.Refusal{Id: -1, Shape: markW, New: shut}, false},
		{e, api.Refusal{Id: 256, Shape: markW, New: shut}, false},
		{e, api.Refusal{Id: least, Shape: markW, New: shut}, false},
		{e, api.Refusal{Id: most, Shape: markW, New: shut}, false},
		{at(10, 0, admit(markN, 3, 3)), api.Refusal{Id: 2, Shape: markW, New: shut}, true},
		// Marks that are split.
		{at(10, 0, split(0, markN, 3)), api.Refusal{Shape: markW, New: shut}, true},
		{at(10, 0, split(2, markN, 3)), api.Refusal{Id: 2, Shape: markW, New: shut}, true},
		{at(10, 0, split(2, markN, 3)), api.Refusal{Shape: markW, New: shut}, false},
		{at(10, 0, split(0, markN, 1)), api.Refusal{Shape: markW, New: shut}, false},
		{at(10, 0, split(1, markN, 3)), api.Refusal{Shape: markW, New: shut}, false},
		{at(10, 0, split(3, markN, 3)), api.Refusal{Shape: markW, New: shut}, false},
		// Marks that are moved.
		{at(10, 0, move(2, 1)), api.Refusal{Shape: markW}, true},
		{at(20, 0, move(2, 1)), api.Refusal{Shape: markW}, false},
		{at(10, 0, move(0, 3)), api.Refusal{Id: 2, Shape: markW}, true},
		{at(10, 0, move(0, 3)), api.Refusal{Id: 0, Shape: markW}, false},
		{at(20, 0, move(0, 3)), api.Refusal{Id: 2, Shape: markW}, false},
		{at(10, 0, move(0, 1)), api.Refusal{Id: 0, Shape: markW}, false},
		{at(10, 0, move(2, 3)), api.Refusal{Id: 2, Shape: markW}, false},
		{at(10, 0, move(2, 2)), api.Refusal{Id: 2, Shape: markW}, false},
		// What brings no mark into use.
		{at(10, 0, sell(0, 3)), api.Refusal{Shape: markW}, false},
		{at(10, 0, rest(0)), api.Refusal{Shape: markW}, false},
		{at(20, 0, resume(0)), api.Refusal{Shape: markW}, false},
		{at(20, 0, resume(1)), api.Refusal{Id: 1, Shape: markK}, false},
	} {
		if is, err := register.CheckRefusal(r, x.e, x.x); is != x.want || err != api.OK {
			t.Error(i, is, err)
		}
	}
	// What has been written down later than e holds as well.
	late := registerOf(t, folds3(), budget(1, 0), at(10, 30, admit(markW, 1, 0)), at(12, 40, rest(0)))
	for day, want := range map[int]bool{9: false, 10: true, 11: true, 12: false} {
		for _, known := range []int{0, 29, 35, 50} {
			if is, err := register.CheckRefusal(late, at(day, known, admit(markN, 1, 1)), api.Refusal{Shape: markW, New: shut}); is != want || err != api.OK {
				t.Error(day, known, is, err)
			}
		}
	}
	resumed := registerOf(t, folds3(), budget(1, 0), at(10, 0, admit(markW, 1, 0)), at(11, 0, rest(0)), at(12, 0, admit(markN, 1, 1)))
	if is, err := register.CheckRefusal(resumed, at(13, 0, resume(0)), api.Refusal{Id: 2, Shape: markW, Old: shut}); !is || err != api.OK {
		t.Error(is, err)
	}
	if is, err := register.CheckRefusal(resumed, at(11, 0, resume(0)), api.Refusal{Id: 2, Shape: markW, Old: shut}); is || err != api.OK {
		t.Error(is, err)
	}
}

// P5.2: CheckRefusal of an event that is not well-formed, whatever else is wrong with it.
func TestCheckRefusalOfBadEvents(t *testing.T) {
	r := registerOf(t, folds3(), budget(1, 0), admit(markW, 1, 0))
	x := api.Refusal{Shape: markW}
	for _, e := range badEvents() {
		if is, err := register.CheckRefusal(r, e, x); is || err != api.ErrEvent {
			t.Error(e, is, err)
		}
		if got, err := register.Try(r, e); !sameRefusal(got, api.Refusal{}) || err != api.ErrEvent {
			t.Error(e, got, err)
		}
		if got, err := register.Append(r, e); !sameRegister(got, api.Register{}) || err != api.ErrEvent {
			t.Error(e, got, err)
		}
	}
}
