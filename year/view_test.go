package year_test

import (
	"fmt"
	"slices"
	"strings"
	"testing"

	"earmark/api"
	"earmark/register"
	"earmark/year"
)

// P9.3: parishes and numbers that are not in their ranges, and books that are not open.
func TestArguments(t *testing.T) {
	errs := func(y *year.Year, p int) []api.Errno {
		_, err1 := y.Register(p)
		_, err2 := y.Refused(p)
		_, _, err3 := y.Roll(p)
		_, err4 := y.Tally(p)
		_, err5 := y.Proofs(p)
		_, err6 := y.Claim(p, 4095, 65536)
		_, err7 := y.Verdicts(p, 4095, 65536)
		_, err8 := y.Agree(p, p)
		return []api.Errno{err1, err2, err3, err4, err5, err6, err7, err8}
	}
	expect := func(y *year.Year, want api.Errno, parishes ...int) {
		t.Helper()
		for _, p := range parishes {
			if got := errs(y, p); !slices.Equal(got, slices.Repeat([]api.Errno{want}, 8)) {
				t.Error(p, got)
			}
		}
	}
	expect(year.New(), api.ErrArg, -1, 0, 1, 7, 8)
	y := modelOf(t, "grazings 1", "begin 2 3 0 0 7", "crash 1 1")
	check(t, y, "write 1 miss 0 0 0", "", api.ErrDown)
	expect(y, api.OK, 0)
	expect(y, api.ErrState, 1)
	expect(y, api.ErrArg, -1<<63, -1, 2, 7, 8, 1<<62)
	for _, x := range []struct {
		a, b int
		err  api.Errno
	}{{0, 1, api.ErrState}, {1, 0, api.ErrState}, {0, 2, api.ErrArg}, {2, 0, api.ErrArg}, {-1, 1, api.ErrArg}, {1, 2, api.ErrArg}} {
		if is, err := y.Agree(x.a, x.b); is || err != x.err {
			t.Error(x, is, err)
		}
	}
	for _, x := range []struct {
		parish, gathering, wrong int
		err                      api.Errno
	}{
		{0, -1, 0, api.ErrArg}, {0, 4096, 0, api.ErrArg}, {0, 0, -1, api.ErrArg}, {0, 0, 65537, api.ErrArg}, {0, 1 << 62, -1 << 63, api.ErrArg}, {0, 0, 0, api.OK},
		{1, -1, 0, api.ErrState}, {1, 0, 65537, api.ErrState}, {2, -1, 0, api.ErrArg},
	} {
		c, err := y.Claim(x.parish, x.gathering, x.wrong)
		l, other := y.Verdicts(x.parish, x.gathering, x.wrong)
		if err != x.err || other != x.err || len(c.Missing)+len(c.Strays)+c.Wrong+len(l) != 0 {
			t.Error(x, c, err, l, other)
		}
	}
}

// checkEvents checks the events of the register of a parish, and those that were refused.
func checkEvents(t *testing.T, y *year.Year, parish int, want, wantRefused []api.Event) {
	t.Helper()
	r, err := y.Register(parish)
	refused, other := y.Refused(parish)
	if !slices.Equal(r.Events, want) || !slices.Equal(refused, wantRefused) || err != api.OK || other != api.OK {
		t.Errorf("%v %d, not %v; %v %d, not %v", r.Events, err, want, refused, other, wantRefused)
	}
	check(t, y, fmt.Sprint("refused ", parish), fmt.Sprint(len(wantRefused)), api.OK)
}

// marked returns an event with a mark.
func marked(e api.Event, mark string) api.Event {
	near, far, _ := strings.Cut(mark, " ")
	e.Mark = markOf(near, far)
	return e
}

// P9.3: each kind of event.
func TestEvents(t *testing.T) {
	y := modelOf(t, "grazings 3", "gate 0 1 5 9", "begin 1 20 0 0 7", "day 10", "write 0 admit 3 1 0 "+key, "day 5", "write 0 miss 0 0 5", "write 0 split 8 0.0 2 c.k......... f...........", "sheet 0 0 0 0 1 0",
		"write 0 sell 9 0.2 3", "write 0 rest 9 0.0", "write 0 move 11 0.2 2", "day 20", "write 0 resume 30 0.0", "write 0 sell 1048576 0.0 63")
	want := []api.Event{
		marked(api.Event{No: 0, Kind: api.AdmitE, At: 3, Known: 10, Flock: 1}, key),
		marked(api.Event{No: 1, Kind: api.SplitE, At: 8, Known: 15, Flock: 2}, "c.k......... f..........."),
		{No: 2, Kind: api.SellE, Id: 1, At: 9, Known: 15, Flock: 3},
		{No: 3, Kind: api.RestE, At: 9, Known: 15},
		{No: 4, Kind: api.MoveE, Id: 1, At: 11, Known: 15, Grazing: 2},
		{No: 5, Kind: api.ResumeE, At: 30, Known: 35},
		{No: 6, Kind: api.SellE, At: api.MaxDay, Known: 35, Flock: 63},
	}
	checkEvents(t, y, 0, want, nil)
	if r := y.Truth(); !slices.Equal(r.Events, want) || r.Fell.Grazings != 3 || len(r.Fell.Gates) != 1 {
		t.Error(r)
	}
	check(t, y, "marks 0 2", "", api.OK)
	check(t, y, "marks 0 3", "0 1 0 in use "+key, api.OK)
	check(t, y, "marks 0 9", "0 1 0 rests "+key+"\n1 3 0 in use c.k......... f...........", api.OK)
	check(t, y, "marks 0 35", "0 1 0 in use "+key+"\n1 3 2 in use c.k......... f...........", api.OK)
	check(t, y, "marks 0 1048576", "0 63 0 in use "+key+"\n1 3 2 in use c.k......... f...........", api.OK)
	for line, flock := range map[string]string{"owner 0 0.0 3": "1", "owner 0 0.0 1048575": "1", "owner 0 0.0 1048576": "63", "owner 0 0.2 8": "2", "owner 0 0.2 9": "3"} {
		check(t, y, line, flock, api.OK)
	}
	for _, line := range []string{"owner 0 0.0 2", "owner 0 0.2 7", "owner 0 0.1 20", "owner 0 0.3 20", "owner 0 0.4 20", "owner 0 0.9 20", "owner 0 0.63 20", "owner 0 1.0 20", "owner 0 7.0 20"} {
		check(t, y, line, "", api.ErrUnknown)
	}
}

// P9.3: events that a register does not accept, whatever the reason, keep the number that they were tried with; it is that of the next one, too.
func TestRefused(t *testing.T) {
	y := modelOf(t, "grazings 3", "begin 1 30 1 0 7", "day 10",
		"write 0 admit 3 1 0 "+whole,               // 0
		"write 0 admit 4 2 0 "+notch,               // 1: clashes
		"write 0 admit 4 2 3 "+key,                 // 2: there is no such grazing
		"write 0 admit 4 2 2 "+notch,               // 3: is on another fold
		"write 0 sell 5 0.0 1",                     // 4: has it
		"write 0 sell 2 0.0 2",                     // 5: is not there yet
		"write 0 sell 5 0.1 3",                     // 6: was refused
		"write 0 rest 5 0.3",                       // 7
		"write 0 resume 6 0.7",                     // 8: has brought no mark
		"write 0 move 6 0.63 1",                    // 9: has not been written
		"write 0 split 6 7.0 5 "+key,               // 10: there is no such parish
		"write 0 split 6 0.12 5 "+forked,           // 11: comes later
		"write 0 admit 7 5 1 "+forked,              // 12
		"write 0 miss 0 0 0", "write 0 rest 4 0.3", // 14: is rested already, on the next day
		"sheet 0 0 0 0 1 0", "write 0 rest 9 0.15", // 16: is a sheet
		"write 0 resume 8 0.3", // 17
	)
	id := func(e api.Event, id int) api.Event {
		e.Known, e.Id = 10, id
		return e
	}
	want := []api.Event{
		marked(id(api.Event{No: 0, Kind: api.AdmitE, At: 3, Flock: 1}, 0), whole),
		marked(id(api.Event{No: 1, Kind: api.AdmitE, At: 4, Flock: 2, Grazing: 2}, 0), notch),
		id(api.Event{No: 2, Kind: api.RestE, At: 5}, 1),
		marked(id(api.Event{No: 3, Kind: api.AdmitE, At: 7, Flock: 5, Grazing: 1}, 0), forked),
		id(api.Event{No: 4, Kind: api.ResumeE, At: 8}, 1),
	}
	refused := []api.Event{
		marked(id(api.Event{No: 1, Kind: api.AdmitE, At: 4, Flock: 2}, 0), notch),
		marked(id(api.Event{No: 1, Kind: api.AdmitE, At: 4, Flock: 2, Grazing: 3}, 0), key),
		id(api.Event{No: 2, Kind: api.SellE, At: 5, Flock: 1}, 0),
		id(api.Event{No: 2, Kind: api.SellE, At: 2, Flock: 2}, 0),
		id(api.Event{No: 2, Kind: api.SellE, At: 5, Flock: 3}, -1),
		id(api.Event{No: 3, Kind: api.ResumeE, At: 6}, -1),
		id(api.Event{No: 3, Kind: api.MoveE, At: 6, Grazing: 1}, -1),
		marked(id(api.Event{No: 3, Kind: api.SplitE, At: 6, Flock: 5}, -1), key),
		marked(id(api.Event{No: 3, Kind: api.SplitE, At: 6, Flock: 5}, -1), forked),
		id(api.Event{No: 4, Kind: api.RestE, At: 4}, 1),
		id(api.Event{No: 4, Kind: api.RestE, At: 9}, -1),
	}
	checkEvents(t, y, 0, want, refused)
	check(t, y, "owner 0 0.1 9", "", api.ErrUnknown)
	check(t, y, "owner 0 0.3 9", "2", api.OK)
	check(t, y, "owner 0 0.12 9", "5", api.OK)
}

// P9.3: many events of which some are refused, wherever these stand.
func TestManyEvents(t *testing.T) {
	for _, bad := range [][]int{nil, {0}, {1}, {39}, {0, 1}, {1, 2}, {6, 7, 8}, {7}, {8}, {15}, {16}, {0, 2, 4, 6, 8, 10, 12, 14}, {3, 38, 39}} {
		y := modelOf(t, "grazings 16", "begin 1 64 0 0 7", "write 0 admit 0 0 0 "+whole)
		var want, refused []api.Event
		grazing := 0
		want = append(want, marked(api.Event{Kind: api.AdmitE}, whole))
		for n := range 40 {
			if slices.Contains(bad, n) {
				refused = append(refused, api.Event{No: len(want), Kind: api.MoveE, Grazing: grazing})
			} else {
				grazing = (grazing + 1 + n%3) % 16
				want = append(want, api.Event{No: len(want), Kind: api.MoveE, Grazing: grazing})
			}
			check(t, y, fmt.Sprint("write 0 move 0 0.0 ", grazing), fmt.Sprint("0.", n+1), api.OK)
		}
		checkEvents(t, y, 0, want, refused)
	}
	y := modelOf(t, "grazings 16", "begin 1 64 0 0 7")
	var refused []api.Event
	for range 64 {
		doAll(t, y, "write 0 rest 0 0.0")
		refused = append(refused, api.Event{Kind: api.RestE, Id: -1})
	}
	checkEvents(t, y, 0, nil, refused)
}

// P9.3: entries count by the day on which they are written, then by parish, then by number; what stands later is not known to what stands before it.
func TestOrder(t *testing.T) {
	y := modelOf(t, "grazings 1", "begin 3 9 1 0 7", "day 1",
		"write 2 admit 9 2 0 "+whole, "write 0 admit 8 0 0 "+key,
		"write 1 sell 9 2.0 5",                         // is tried before the mark is there
		"day 1",                                        // the second day
		"write 0 admit 3 1 0 "+notch,                   // clashes with what was written the day before
		"write 1 sell 9 2.0 4", "write 0 sell 9 2.0 3", // the one of the parish 0 comes first
		"write 0 sell 9 0.0 7", "write 0 sell 9 0.0 6", // in the order of their numbers
	)
	doAll(t, y, "sendall")
	mark := func(e api.Event, mark string) api.Event { return marked(e, mark) }
	want := []api.Event{
		mark(api.Event{No: 0, Kind: api.AdmitE, At: 8, Known: 1}, key),
		mark(api.Event{No: 1, Kind: api.AdmitE, At: 9, Known: 1, Flock: 2}, whole),
		{No: 2, Kind: api.SellE, Id: 1, At: 9, Known: 2, Flock: 3},
		{No: 3, Kind: api.SellE, Id: 0, At: 9, Known: 2, Flock: 7},
		{No: 4, Kind: api.SellE, Id: 0, At: 9, Known: 2, Flock: 6},
		{No: 5, Kind: api.SellE, Id: 1, At: 9, Known: 2, Flock: 4},
	}
	refused := []api.Event{
		{No: 1, Kind: api.SellE, Id: -1, At: 9, Known: 1, Flock: 5},
		mark(api.Event{No: 5, Kind: api.AdmitE, At: 3, Known: 2, Flock: 1}, notch),
	}
	// The refused admission is tried as the first one of its day.
	refused[1].No = 2
	for p := range 3 {
		checkEvents(t, y, p, want, refused)
	}
	check(t, y, "owner 1 2.0 9", "4", api.OK)
	check(t, y, "owner 1 2.0 8", "", api.ErrUnknown)
	check(t, y, "owner 1 0.0 8", "0", api.OK)
}

// P9.3: a mark of another parish is unknown until its entry comes.
func TestUnknownMark(t *testing.T) {
	y := modelOf(t, "grazings 1", "begin 2 9 0 0 7", "write 1 admit 0 1 0 "+whole, "day 1", "write 0 sell 1 1.0 2")
	checkEvents(t, y, 0, nil, []api.Event{{Kind: api.SellE, Id: -1, At: 1, Known: 1, Flock: 2}})
	check(t, y, "owner 0 1.0 1", "", api.ErrUnknown)
	check(t, y, "agree 0 1", "no", api.OK)
	doAll(t, y, "send 1 0")
	check(t, y, "refused 0", "0", api.OK)
	check(t, y, "owner 0 1.0 1", "2", api.OK)
	check(t, y, "owner 1 1.0 1", "1", api.OK)
	check(t, y, "agree 0 1", "no", api.OK)
	doAll(t, y, "send 0 1")
	check(t, y, "agree 0 1", "yes", api.OK)
}

// P9.3: which entries Truth is made of.
func TestTruth(t *testing.T) {
	y := year.New()
	if r := y.Truth(); r.Fell.Grazings != 0 || len(r.Fell.Gates)+len(r.Events) != 0 || r.Budget != (api.Budget{}) {
		t.Error(r)
	}
	doAll(t, y, "grazings 2")
	if r := y.Truth(); r.Fell.Grazings != 0 {
		t.Error(r)
	}
	doAll(t, y, "begin 4 9 1 0 7")
	flocks := func(want ...int) {
		t.Helper()
		var got []int
		r := y.Truth()
		for _, e := range r.Events {
			got = append(got, e.Flock)
		}
		if !slices.Equal(got, want) || r.Fell.Grazings != 2 || r.Budget != (api.Budget{Weather: 1}) || register.Check(r) != api.OK {
			t.Error(got, want, r)
		}
	}
	flocks()
	doAll(t, y, "write 3 admit 0 3 0 "+whole, "write 0 admit 0 10 0 w......k.... f...........", "day 1", "write 2 admit 0 2 0 "+forked, "write 1 admit 0 1 1 "+holed)
	flocks(10, 3, 1, 2)
	check(t, y, "forge 2 3 5 admit 0 9 0 "+key, "", api.ErrArg)
	check(t, y, "forge 2 2 0 admit 0 9 0 "+key, "", api.ErrState)
	check(t, y, "forge 2 7 0 admit 0 9 0 "+key, "", api.ErrState)
	flocks(10, 3, 1, 2)
	// A forged entry that is the same as the true one is forged all the same.
	check(t, y, "forge 2 3 0 admit 0 2 0 "+forked, "1", api.OK)
	flocks(10, 3, 1)
	doAll(t, y, "crash 0 1")
	flocks(10, 3, 1)
	check(t, y, "write 0 miss 0 0 0", "", api.ErrDown)
	flocks(3, 1)
	doAll(t, y, "sendall")
	flocks(3, 1)
	doAll(t, y, "open 0 0")
	flocks(10, 3, 1)
	check(t, y, "write 0 admit 2 8 0 "+whole, "0.1", api.OK)
	flocks(10, 3, 1)
}

// P9.3: a forged entry of which nothing came is forged all the same, also if the power goes off or there is no room.
func TestLies(t *testing.T) {
	y := modelOf(t, "grazings 1", "begin 3 9 0 0 7", "write 0 admit 0 1 0 "+whole, "write 0 admit 0 1 0 "+forked)
	check(t, y, "forge 0 1 1 miss 0 0 0", "0", api.OK)
	if r := y.Truth(); len(r.Events) != 0 {
		t.Error(r)
	}
	y = modelOf(t, "grazings 1", "begin 3 9 0 0 7", "write 0 admit 0 1 0 "+whole, "crash 1 1")
	check(t, y, "forge 0 1 0 miss 0 0 0", "", api.ErrDown)
	if r := y.Truth(); len(r.Events) != 0 {
		t.Error(r)
	}
}

// P9.3: rolls, what is missing in them, and conflicts.
func TestRoll(t *testing.T) {
	y := modelOf(t, "grazings 1", "begin 2 20 0 0 7", "day 3", "sheet 0 2 1 3 4 0 ; ewe 0 0 "+whole, "sheet 1 2 1 0 2 0 ; ewe 0 0 "+whole, "sheet 1 1 9 0 1 0", "sheet 1 1 9 0 1 5", "sheet 1 1 9 0 1 5")
	check(t, y, "missing 0", "2 1 0\n2 1 1\n2 1 2", api.OK)
	check(t, y, "missing 1", "2 1 1", api.OK)
	doAll(t, y, "day 1", "sheet 1 1 9 0 1 0", "sendall")
	check(t, y, "missing 0", "2 1 1\n2 1 2", api.OK)
	roll, conflicts, err := y.Roll(0)
	want := "{[{1 9 0 1 3 0 []} {2 1 0 2 3 0 [{0 0 0 {{0 [0 0 0 0] [0 0 0 0] [false false false]} {0 [0 0 0 0] [0 0 0 0] [false false false]}}}]} {2 1 3 4 3 0 [{0 0 0 {{0 [0 0 0 0] [0 0 0 0] [false false false]} {0 [0 0 0 0] [0 0 0 0] [false false false]}}}]}]}" +
		" [{{1 9 0} {1 9 0 1 3 0 []} {1 9 0 1 3 5 []}} {{1 9 0} {1 9 0 1 3 0 []} {1 9 0 1 4 0 []}}]"
	if got := fmt.Sprint(roll, conflicts); got != want || err != api.OK {
		t.Error(got, err)
	}
	check(t, y, "agree 0 1", "yes", api.OK)
}

// P9.3: what Agree compares: registers, rolls, conflicts, and the errors of rolls.
func TestAgree(t *testing.T) {
	y := modelOf(t, "grazings 1", "begin 3 64 0 0 7")
	agree := func(a, b int, want bool) {
		t.Helper()
		is, err := y.Agree(a, b)
		other, err2 := y.Agree(b, a)
		if is != want || other != want || err != api.OK || err2 != api.OK {
			t.Error(a, b, is, err, other, err2)
		}
		check(t, y, fmt.Sprint("agree ", a, " ", b), map[bool]string{true: "yes", false: "no"}[want], api.OK)
	}
	agree(0, 1, true)
	agree(2, 2, true)
	// Neither counts nor refused events matter.
	doAll(t, y, "write 0 miss 0 0 5", "write 1 rest 0 5.5")
	agree(0, 1, true)
	// The same register and roll may come of different entries.
	doAll(t, y, "write 0 admit 0 1 0 "+whole)
	agree(0, 1, false)
	doAll(t, y, "write 1 admit 0 1 0 "+whole)
	agree(0, 1, true)
	doAll(t, y, "sheet 0 5 5 0 1 0 ; ewe 0 0 "+whole)
	agree(0, 1, false)
	doAll(t, y, "sheet 1 5 5 0 1 0 ; ewe 0 0 "+whole)
	agree(0, 1, true)
	doAll(t, y, "sheet 0 5 5 0 1 0 ; ram 0 0 "+whole)
	agree(0, 1, false)
	doAll(t, y, "sheet 1 5 5 0 1 0 ; wether 0 0 "+whole)
	agree(0, 1, false)
	doAll(t, y, "sheet 1 5 5 0 1 0 ; ram 0 0 "+whole)
	agree(0, 1, false)
	doAll(t, y, "sheet 0 5 5 0 1 0 ; wether 0 0 "+whole)
	agree(0, 1, true)
	// The sheet with the least text is in the roll; which one that is differs here.
	doAll(t, y, "sheet 0 6 6 0 1 0", "sheet 1 6 6 0 1 0 ; ewe 0 0 "+whole)
	agree(0, 1, false)
	// The days of events count, too.
	doAll(t, y, "sheet 1 6 6 0 1 0", "sheet 0 6 6 0 1 0 ; ewe 0 0 "+whole)
	agree(0, 1, true)
	doAll(t, y, "write 0 sell 3 0.1 9", "day 1", "write 1 sell 3 1.1 9")
	agree(0, 1, false)
}

// P9.3: rolls of more than 64 sheets.
func TestTooManySheets(t *testing.T) {
	y := modelOf(t, "grazings 1", "begin 4 64 0 0 7", "write 2 admit 0 0 0 "+whole, "send 2 3")
	for n := range 63 {
		doAll(t, y, fmt.Sprint("sheet 0 ", n, " 0 0 1 0"), fmt.Sprint("sheet 1 ", n, " 0 1 2 0"))
	}
	agree := func(want string) {
		t.Helper()
		check(t, y, "agree 0 1", want, api.OK)
	}
	agree("no")
	doAll(t, y, "sheet 2 63 0 0 1 0 ; ewe 0 0 "+whole, "write 2 miss 63 0 1", "send 2 0")
	check(t, y, "missing 0", "", api.OK)
	check(t, y, "verdicts 0 63 0", "0", api.OK)
	agree("no")
	doAll(t, y, "sheet 2 64 0 0 1 0", "send 2 0", "send 2 1")
	for _, line := range []string{"missing 0", "verdicts 0 63 0", "pay 0 63 0 5"} {
		check(t, y, line, "", api.ErrLimit)
	}
	roll, conflicts, err := y.Roll(0)
	if len(roll.Sheets)+len(conflicts) != 0 || err != api.ErrLimit {
		t.Error(roll, conflicts, err)
	}
	if c, err := y.Claim(0, 63, 0); len(c.Missing)+len(c.Strays) != 0 || err != api.ErrLimit {
		t.Error(c, err)
	}
	if l, err := y.Verdicts(0, 63, 0); len(l) != 0 || err != api.ErrLimit {
		t.Error(l, err)
	}
	// Arguments come first.
	for _, x := range [][2]int{{-1, 0}, {4096, 0}, {63, -1}, {63, 65537}} {
		if c, err := y.Claim(0, x[0], x[1]); len(c.Missing)+len(c.Strays) != 0 || err != api.ErrArg {
			t.Error(x, c, err)
		}
	}
	// Both rolls have the same error now, and that of the parish 2 has none.
	agree("yes")
	check(t, y, "agree 0 2", "no", api.OK)
	check(t, y, "agree 2 1", "no", api.OK)
	// The parish 3 has the same register, and no sheets.
	check(t, y, "agree 0 3", "no", api.OK)
	check(t, y, "agree 3 0", "no", api.OK)
	check(t, y, "owner 0 2.0 0", "0", api.OK)
	check(t, y, "refused 0", "0", api.OK)
	// With different registers they do not agree, all the same.
	doAll(t, y, "write 1 admit 0 0 0 "+forked)
	agree("no")
}
