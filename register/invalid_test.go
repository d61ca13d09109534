package register_test

import (
	"slices"
	"testing"

	"earmark/api"
	"earmark/register"
)

// badIds, badDays, badFlocks and badGrazings do not exist on a fell of 5 grazings.
var (
	badIds      = []int{least, -1, 4096, most}
	badDays     = []int{least, -1, api.MaxDay + 1, most}
	badFlocks   = []int{least, -1, 64, 4095, most}
	badGrazings = []int{least, -1, 5, 16, most}
)

// args are the arguments of a call besides the register: numbers, and a mark.
type args struct {
	numbers [4]int
	mark    api.Mark
}

// call is a call of a function, which reports whether the results besides the error are all zero: the values that its numbers cannot have, and whether it has a mark, which comes before them.
type call struct {
	name    string
	bad     [][]int
	hasMark bool
	run     func(r api.Register, x args) (bool, api.Errno)
}

func calls() []call {
	return []call{
		{"State", [][]int{badDays, badDays}, false, func(r api.Register, x args) (bool, api.Errno) {
			l, err := register.State(r, x.numbers[0], x.numbers[1])
			return len(l) == 0, err
		}},
		{"Get", [][]int{badIds, badDays, badDays}, false, func(r api.Register, x args) (bool, api.Errno) {
			h, err := register.Get(r, x.numbers[0], x.numbers[1], x.numbers[2])
			return h == api.Held{}, err
		}},
		{"OwnedBy", [][]int{badFlocks, badDays, badDays}, false, func(r api.Register, x args) (bool, api.Errno) {
			l, err := register.OwnedBy(r, x.numbers[0], x.numbers[1], x.numbers[2])
			return len(l) == 0, err
		}},
		{"Find", [][]int{badGrazings, badDays, badDays}, true, func(r api.Register, x args) (bool, api.Errno) {
			id, is, err := register.Find(r, x.mark, x.numbers[0], x.numbers[1], x.numbers[2])
			return id == 0 && !is, err
		}},
		{"Candidates", [][]int{badGrazings, badDays, badDays}, true, func(r api.Register, x args) (bool, api.Errno) {
			l, err := register.Candidates(r, x.mark, x.numbers[0], x.numbers[1], x.numbers[2])
			return len(l) == 0, err
		}},
		{"Clashes", [][]int{badGrazings, badDays, badDays}, true, func(r api.Register, x args) (bool, api.Errno) {
			l, err := register.Clashes(r, x.mark, x.numbers[0], x.numbers[1], x.numbers[2])
			return len(l) == 0, err
		}},
		{"Suggest", [][]int{badIds, badDays, badDays, {least, -1, 3, most}}, false, func(r api.Register, x args) (bool, api.Errno) {
			m, l, is, err := register.Suggest(r, x.numbers[0], x.numbers[1], x.numbers[2], x.numbers[3])
			return m == api.Mark{} && len(l) == 0 && !is, err
		}},
		{"History", [][]int{badIds}, false, func(r api.Register, x args) (bool, api.Errno) {
			l, err := register.History(r, x.numbers[0])
			return len(l) == 0, err
		}},
		{"Line", [][]int{badIds}, false, func(r api.Register, x args) (bool, api.Errno) {
			l, err := register.Line(r, x.numbers[0])
			return len(l) == 0, err
		}},
		{"Heirs", [][]int{badIds}, false, func(r api.Register, x args) (bool, api.Errno) {
			l, err := register.Heirs(r, x.numbers[0])
			return len(l) == 0, err
		}},
		{"Spans", [][]int{badIds, badDays}, false, func(r api.Register, x args) (bool, api.Errno) {
			l, err := register.Spans(r, x.numbers[0], x.numbers[1])
			return len(l) == 0, err
		}},
		{"Changed", [][]int{badDays, badDays, badDays}, false, func(r api.Register, x args) (bool, api.Errno) {
			l, err := register.Changed(r, x.numbers[0], x.numbers[1], x.numbers[2])
			return len(l) == 0, err
		}},
		{"Try", nil, false, func(r api.Register, _ args) (bool, api.Errno) {
			x, err := register.Try(r, number(len(r.Events), at(9, 9, sell(0, 63))))
			return sameRefusal(x, api.Refusal{}), err
		}},
		{"Try of no event", nil, false, func(r api.Register, _ args) (bool, api.Errno) {
			x, err := register.Try(r, api.Event{})
			if err == api.ErrEvent {
				err = api.OK
			}
			return sameRefusal(x, api.Refusal{}), err
		}},
		{"Append", nil, false, func(r api.Register, _ args) (bool, api.Errno) {
			x, err := register.Append(r, number(len(r.Events), at(9, 9, sell(0, 63))))
			return sameRegister(x, api.Register{}), err
		}},
		{"CheckRefusal", nil, false, func(r api.Register, _ args) (bool, api.Errno) {
			is, err := register.CheckRefusal(r, at(9, 9, admit(markW, 1, 0)), api.Refusal{Shape: markW})
			return !is, err
		}},
		{"CheckRefusal of no event", nil, false, func(r api.Register, _ args) (bool, api.Errno) {
			is, err := register.CheckRefusal(r, api.Event{}, api.Refusal{})
			if err == api.ErrEvent {
				err = api.OK
			}
			return !is, err
		}},
	}
}

// badRegisters are registers that are not valid, with the errors of Check.
func badRegisters() []struct {
	r    api.Register
	want api.Errno
} {
	var l []struct {
		r    api.Register
		want api.Errno
	}
	add := func(r api.Register, want api.Errno) {
		l = append(l, struct {
			r    api.Register
			want api.Errno
		}{r, want})
	}
	good := numbered(budget(1, 0), admit(markW, 1, 0), at(2, 2, sell(0, 2)))
	for _, f := range badFells() {
		r := good
		r.Fell = f
		add(r, api.ErrFell)
	}
	for _, b := range badBudgets() {
		r := good
		r.Budget = b
		add(r, api.ErrBudget)
	}
	add(with(good, number(3, at(3, 3, sell(0, 3)))), api.ErrRegister)
	add(with(good, number(2, at(3, 1, sell(0, 3)))), api.ErrRegister)
	add(with(good, number(2, at(3, 3, sell(0, 2)))), api.ErrRegister)
	add(with(good, number(2, at(1, 3, sell(0, 2)))), api.ErrRegister)
	add(with(good, number(2, at(3, 3, sell(2, 2)))), api.ErrRegister)
	add(with(good, number(2, at(3, 3, admit(markN, 2, 1)))), api.ErrRegister)
	add(with(good, number(2, at(3, 3, admit(markK, 2, 5)))), api.ErrRegister)
	add(with(good, number(2, at(3, 3, api.Event{Kind: 7}))), api.ErrRegister)
	add(with(good, number(2, at(3, 3, split(2, markK, 2)))), api.ErrRegister)
	add(with(good, number(2, at(3, 3, split(3, markK, 2))), number(3, at(3, 3, split(2, markK, 2)))), api.ErrRegister)
	add(with(full(), number(256, at(300, 300, sell(0, 1)))), api.ErrRegister)
	long := with(full(), full().Events...)
	for range 4 {
		long = with(long, long.Events...)
	}
	add(long, api.ErrRegister)
	return l
}

// P5.1 to P5.5: a register that is not valid comes before every other error, a mark that is not before the numbers; with an error every other result is zero.
func TestInvalidArguments(t *testing.T) {
	good := numbered(budget(1, 0), admit(markW, 1, 0), at(2, 2, sell(0, 2)))
	for _, c := range calls() {
		if _, err := c.run(good, args{}); err != api.OK {
			t.Error(c.name, err)
		}
		l := []args{{}}
		for i, values := range c.bad {
			for _, v := range values {
				var x args
				x.numbers[i] = v
				l = append(l, x)
			}
		}
		for _, x := range l[1:] {
			if zero, err := c.run(good, x); !zero || err != api.ErrArg {
				t.Error(c.name, x, zero, err)
			}
			// The number of cuts of Suggest comes behind ErrUnknown.
			if zero, err := c.run(numbered(budget(0, 0)), x); !zero || err != api.ErrArg && x.numbers[3] == 0 {
				t.Error(c.name, x, zero, err)
			}
		}
		for _, m := range badMarks() {
			for _, x := range l {
				x.mark = m
				if zero, err := c.run(good, x); c.hasMark && (!zero || err != api.ErrEar) {
					t.Error(c.name, x, zero, err)
				}
			}
		}
		for i, bad := range badRegisters() {
			for _, x := range append(l, args{mark: badMarks()[0]}) {
				if zero, err := c.run(bad.r, x); !zero || err != bad.want {
					t.Error(c.name, i, x, zero, err, bad.want)
				}
			}
		}
	}
}

// P5.3 and P5.4: on the first and the last day, with the greatest id and flock, and in the last grazing.
func TestRanges(t *testing.T) {
	last := at(api.MaxDay, api.MaxDay, admit(markK, 63, 4))
	r := registerOf(t, folds3(), budget(1, 0), admit(markW, 0, 0), last)
	if l, err := register.OwnedBy(r, 63, api.MaxDay, api.MaxDay); !slices.Equal(l, []int{1}) || err != api.OK {
		t.Error(l, err)
	}
	if l, err := register.OwnedBy(r, 0, 0, 0); !slices.Equal(l, []int{0}) || err != api.OK {
		t.Error(l, err)
	}
	if id, is, err := register.Find(r, markK, 4, api.MaxDay, api.MaxDay); id != 1 || !is || err != api.OK {
		t.Error(id, is, err)
	}
	if id, is, err := register.Find(r, markK, 4, api.MaxDay-1, api.MaxDay); id != 0 || is || err != api.OK {
		t.Error(id, is, err)
	}
	if h, err := register.Get(r, 0, 0, 0); h != (api.Held{From: -1}) || err != api.OK {
		t.Error(h, err)
	}
	if l, err := register.Spans(r, 1, api.MaxDay); !slices.Equal(l, []api.Span{{From: api.MaxDay, To: api.MaxDay + 1, Flock: 63}}) || err != api.OK {
		t.Error(l, err)
	}
}

// R3: no events and no gates may be nil or empty.
func TestEmptyLists(t *testing.T) {
	for _, gates := range [][]api.Gate{nil, {}} {
		for _, events := range [][]api.Event{nil, {}} {
			r := api.Register{Fell: api.Fell{Grazings: 1, Gates: gates}, Events: events}
			if err := register.Check(r); err != api.OK {
				t.Error(err)
			}
			if l, err := register.State(r, 0, 0); len(l) != 0 || err != api.OK {
				t.Error(l, err)
			}
			if made, err := register.Append(r, admit(markW, 1, 0)); len(made.Events) != 1 || err != api.OK {
				t.Error(made, err)
			}
		}
	}
	r := numbered(budget(0, 0), admit(markW, 1, 0))
	for _, l := range [][]api.Change{nil, {}} {
		if is, err := register.CheckRefusal(r, admit(markW, 1, 0), api.Refusal{Shape: markW, New: l, Old: l}); !is || err != api.OK {
			t.Error(is, err)
		}
	}
}

// R2: arguments are neither changed nor kept, and results are new memory.
func TestMemory(t *testing.T) {
	f := folds3()
	empty, _ := register.New(f, budget(1, 0))
	f.Gates[0].To = f.Gates[0].From
	if !sameFell(empty.Fell, folds3()) {
		t.Error("New keeps its argument")
	}
	old := with(empty, at(5, 5, admit(markW, 1, 0)))
	old.Events = append(make([]api.Event, 0, 10), old.Events...)
	first, _ := register.Append(old, number(1, at(3, 5, admit(markK, 1, 0))))
	second, _ := register.Append(old, number(1, at(9, 9, sell(0, 4))))
	if first.Events[1].Kind != api.AdmitE || second.Events[1].Kind != api.SellE {
		t.Error(first, second)
	}
	old.Fell.Gates[0].A, old.Events[0].At = 7, 8
	if !sameFell(first.Fell, folds3()) || first.Events[0].At != 5 {
		t.Error("Append keeps its argument")
	}
	r := family(t)
	copied := api.Register{Fell: folds3(), Budget: r.Budget, Events: slices.Clone(r.Events)}
	for _, c := range calls() {
		c.run(r, args{numbers: [4]int{3, 60, 60, 1}})
	}
	if !sameRegister(r, copied) {
		t.Error("an argument has been changed")
	}
	checkNew(t, func() []api.Held { l, _ := register.State(r, 60, 60); return l })
	checkNew(t, func() []int { l, _ := register.OwnedBy(r, 1, 60, 60); return l })
	checkNew(t, func() []int { l, _ := register.History(r, 0); return l })
	checkNew(t, func() []int { l, _ := register.Line(r, 6); return l })
	checkNew(t, func() []int { l, _ := register.Heirs(r, 0); return l })
	checkNew(t, func() []api.Span { l, _ := register.Spans(r, 0, 60); return l })
	checkNew(t, func() []int { l, _ := register.Changed(r, 60, 0, 60); return l })
	checkNew(t, func() []api.Change {
		x, _ := register.Try(numbered(budget(1, 0), admit(markW, 1, 0)), number(1, admit(markN, 2, 0)))
		return x.New
	})
}

// checkNew checks that what get returns has elements, and is not kept.
func checkNew[T comparable](t *testing.T, get func() []T) {
	t.Helper()
	l := get()
	want := slices.Clone(l)
	clear(l)
	if len(l) == 0 || !slices.Equal(get(), want) {
		t.Error(l, want)
	}
}
