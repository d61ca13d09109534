package year_test

import (
	"fmt"
	"slices"
	"strings"
	"testing"

	"earmark/api"
	"earmark/book"
	"earmark/year"
)

// Marks: whole ones, one with a notch that grows together in one step, one with a key instead, and others that are apart from these.
const (
	whole  = "w........... w..........."
	notch  = "w.n......... w..........."
	key    = "w.k......... w..........."
	forked = "f........... f..........."
	holed  = "w.........o. h..........."
)

// P9.2: an empty model.
func TestNew(t *testing.T) {
	y := year.New()
	if f := y.Fell(); y.Day() != 0 || y.Parishes() != 0 || f.Grazings != 0 || len(f.Gates) != 0 {
		t.Error(y.Day(), y.Parishes(), f)
	}
	for _, line := range []string{
		"day 1", "sendall", "write 0 admit 0 0 0 " + whole, "write 0 miss 0 0 0", "sheet 0 0 0 0 1 0", "sheet 0 0 0 1 1 0", "forge 0 1 0 miss 0 0 0", "forge 0 0 0 miss 0 0 0", "send 0 1", "send 0 0", "crash 0 1", "open 0 0",
		"owner 0 0.0 0", "marks 0 0", "refused 0", "missing 0", "verdicts 0 0 0", "pay 0 0 0 0", "proofs 0", "agree 0 0",
	} {
		check(t, y, line, "", api.ErrState)
	}
	if got, want := report(y, 0, 0), (&plain{}).report(0, 0); got != want {
		t.Error(got, want)
	}
	// A model keeps nothing of another one.
	doAll(t, year.New(), "grazings 2", "begin 2 3 0 0 5", "day 7")
	if y := year.New(); y.Day() != 0 || y.Parishes() != 0 || y.Fell().Grazings != 0 {
		t.Error(y)
	}
}

// P9.2: commands that are none.
func TestNoCommand(t *testing.T) {
	y := modelOf(t, "grazings 2", "begin 2 3 0 0 5")
	for _, line := range []string{"", "day", "day 0", "day  1", "#", "write 0", "proofs 8", "refused 0 0", "day 1\n"} {
		check(t, y, line, "", api.ErrCommand)
	}
	if y.Day() != 0 {
		t.Error(y.Day())
	}
}

// P9.2: grazings and gates.
func TestFell(t *testing.T) {
	y := year.New()
	fell := func(want string) {
		t.Helper()
		if got := fmt.Sprint(y.Fell()); got != want {
			t.Error(got, want)
		}
	}
	check(t, y, "gate 0 1 100 200", "", api.ErrFell)
	fell("{0 []}")
	check(t, y, "grazings 3", "", api.OK)
	fell("{3 []}")
	for _, line := range []string{"gate 0 3 1 2", "gate 1 0 1 2", "gate 1 1 1 2", "gate 3 4 1 2", "gate 15 15 0 0"} {
		check(t, y, line, "", api.ErrFell)
	}
	fell("{3 []}")
	check(t, y, "gate 0 2 359 0", "", api.OK)
	check(t, y, "gate 0 2 5 5", "", api.OK)
	check(t, y, "gate 0 3 1 2", "", api.ErrFell)
	fell("{3 [{0 2 359 0} {0 2 5 5}]}")
	check(t, y, "grazings 2", "", api.OK)
	fell("{2 []}")
	for range 32 {
		check(t, y, "gate 0 1 100 200", "", api.OK)
	}
	check(t, y, "gate 0 1 100 200", "", api.ErrFell)
	if f := y.Fell(); f.Grazings != 2 || !slices.Equal(f.Gates, slices.Repeat([]api.Gate{{A: 0, B: 1, From: 100, To: 200}}, 32)) {
		t.Error(f)
	}
	check(t, y, "grazings 16", "", api.OK)
	fell("{16 []}")
}

// P9.2: what begin needs, and what it makes impossible.
func TestBegin(t *testing.T) {
	y := year.New()
	check(t, y, "begin 1 4 0 0 7", "", api.ErrFell)
	check(t, y, "begin 1 4 3 3 7", "", api.ErrFell)
	check(t, y, "grazings 2", "", api.OK)
	check(t, y, "begin 2 4 2 2 7", "", api.ErrBudget)
	check(t, y, "begin 2 4 3 1 7", "", api.ErrBudget)
	check(t, y, "sendall", "", api.ErrState)
	check(t, y, "gate 0 1 100 200", "", api.OK)
	if y.Parishes() != 0 {
		t.Error(y.Parishes())
	}
	check(t, y, "begin 8 64 1 2 4611686018427387904", "", api.OK)
	for _, line := range []string{"begin 8 64 1 2 4611686018427387904", "begin 1 1 3 3 0", "grazings 2", "grazings 1", "gate 0 1 5 6", "gate 1 0 5 6"} {
		check(t, y, line, "", api.ErrState)
	}
	if f := y.Fell(); y.Parishes() != 8 || y.Day() != 0 || f.Grazings != 2 || len(f.Gates) != 1 {
		t.Error(y.Parishes(), y.Day(), f)
	}
	for p := range 8 {
		r, err := y.Register(p)
		if r.Budget != (api.Budget{Weather: 1, Cuts: 2}) || r.Fell.Grazings != 2 || len(r.Fell.Gates) != 1 || len(r.Events) != 0 || err != api.OK {
			t.Error(r, err)
		}
		if tally, err := y.Tally(p); !slices.Equal(tally.Have, make([]int, 8)) || !slices.Equal(tally.Heads, make([]uint64, 8)) || err != api.OK {
			t.Error(tally, err)
		}
	}
}

// P9.2: days pass up to the last one.
func TestDay(t *testing.T) {
	y := modelOf(t, "grazings 1", "begin 1 4 0 0 7")
	check(t, y, "day 1", "1", api.OK)
	for n := range 10 {
		check(t, y, "day 100000", fmt.Sprint(1+(n+1)*100000), api.OK)
	}
	check(t, y, "day 48576", "", api.ErrArg)
	check(t, y, "day 100000", "", api.ErrArg)
	check(t, y, "day 48575", "1048576", api.OK)
	check(t, y, "day 1", "", api.ErrArg)
	if y.Day() != api.MaxDay {
		t.Error(y.Day())
	}
	check(t, y, "write 0 admit 1048576 0 0 "+whole, "0.0", api.OK)
	check(t, y, "sheet 0 0 0 0 1 0", "0.1", api.OK)
	check(t, y, "marks 0 1048576", "0 0 0 in use "+whole, api.OK)
}

// P9.2: parishes that the model does not have, and books that are not open.
func TestState(t *testing.T) {
	y := modelOf(t, "grazings 1", "begin 3 9 0 0 7", "write 0 miss 0 0 0", "crash 1 1")
	check(t, y, "write 1 miss 0 0 0", "", api.ErrDown)
	for _, p := range []int{1, 3, 7} {
		for _, line := range []string{
			"write %d admit 0 0 0 " + whole, "sheet %d 0 0 0 1 0", "sheet %d 0 0 1 1 0", "crash %d 1", "owner %d 0.0 0", "marks %d 0", "refused %d", "missing %d", "verdicts %d 0 0", "pay %d 0 0 0", "proofs %d",
			"send %d 0", "send 0 %d", "agree %d 0", "agree 0 %d", "forge %d 0 0 miss 0 0 0", "forge 0 %d 0 miss 0 0 0", "forge %d 0 9 miss 0 0 0", "forge 0 %d 9 miss 0 0 0",
		} {
			check(t, y, fmt.Sprintf(line, p), "", api.ErrState)
		}
		if p > 1 {
			check(t, y, fmt.Sprintf("open %d 0", p), "", api.ErrState)
		}
	}
	for _, line := range []string{"send 0 0", "send 1 1", "forge 0 0 0 miss 0 0 0", "forge 2 2 9 miss 0 0 0"} {
		check(t, y, line, "", api.ErrState)
	}
	check(t, y, "agree 0 0", "yes", api.OK)
	// What is not about a parish goes on.
	check(t, y, "day 3", "3", api.OK)
	check(t, y, "sendall", "1", api.OK)
	check(t, y, "open 1 0", "", api.OK)
	check(t, y, "proofs 1", "", api.OK)
	check(t, y, "sendall", "1", api.OK)
}

// P9.2: entries are named by their parishes and numbers, up to the last one that has a stick.
func TestWrite(t *testing.T) {
	for _, entries := range []int{1, 3, 63, 64} {
		y := modelOf(t, "grazings 1", fmt.Sprint("begin 2 ", entries, " 0 0 7"))
		for no := range entries {
			check(t, y, "write 1 miss 0 0 "+fmt.Sprint(no), fmt.Sprint("1.", no), api.OK)
		}
		for _, line := range []string{"write 1 miss 0 0 0", "write 1 rest 0 0.0", "sheet 1 0 0 0 1 0"} {
			check(t, y, line, "", api.ErrEntry)
		}
		check(t, y, "sheet 1 0 0 1 1 0", "", api.ErrSheet)
		if tally, _ := y.Tally(1); !slices.Equal(tally.Have, []int{0, entries}) {
			t.Error(tally)
		}
		check(t, y, "sheet 0 0 0 0 1 0", "0.0", api.OK)
	}
}

// P9.2: what is written is sealed with the seed, one entry behind the other.
func TestSealed(t *testing.T) {
	y := modelOf(t, "grazings 1", "begin 2 4 0 0 4611686018427387904", "write 1 admit 3 1 15 "+holed, "day 40", "write 1 move 0 7.63 9", "sheet 1 4095 9 3 16 15 ; ewe 0 63 "+whole+" ; wether 4 0 "+notch, "sheet 1 0 0 0 1 0")
	head := uint64(0)
	for no, body := range []string{"0 admit 3 1 15 " + holed, "40 move 0 7.63 9", "40 sheet\nsheet 4095 9 3 16 40 15\newe 0 63 " + whole + "\nwether 4 0 " + notch + "\n", "40 sheet\nsheet 0 0 0 1 40 0\n"} {
		e, _ := book.Seal(1<<62, api.Entry{Parish: 1, No: no, Prev: head, Body: body})
		s, _ := book.Encode(e)
		head = book.Hash(s)
	}
	if tally, err := y.Tally(1); !slices.Equal(tally.Have, []int{0, 4}) || !slices.Equal(tally.Heads, []uint64{0, head}) || err != api.OK {
		t.Error(tally, err)
	}
}

// P9.2: sheets that are not valid.
func TestSheet(t *testing.T) {
	y := modelOf(t, "grazings 1", "begin 1 4 0 0 7", "day 9")
	heads := func(n int) string { return strings.Repeat(" ; ram 4 63 "+holed, n) }
	for _, line := range []string{"sheet 0 0 0 1 1 0", "sheet 0 0 0 15 15 0", "sheet 0 0 0 9 3 0" + heads(1), "sheet 0 0 0 0 1 0" + heads(65), "sheet 0 0 0 0 1 0" + heads(200)} {
		check(t, y, line, "", api.ErrSheet)
	}
	for i, line := range []string{"sheet 0 4095 4095 15 16 15" + heads(64), "sheet 0 0 0 0 1 0", "sheet 0 0 1 1 2 0" + heads(1)} {
		check(t, y, line, fmt.Sprint("0.", i), api.OK)
	}
	roll, conflicts, err := y.Roll(0)
	if len(roll.Sheets) != 3 || len(conflicts) != 0 || err != api.OK {
		t.Fatal(roll, conflicts, err)
	}
	if s := roll.Sheets[2]; s.Gathering != 4095 || s.Clerk != 4095 || s.Part != 15 || s.Parts != 16 || s.Day != 9 || s.Grazing != 15 || len(s.Heads) != 64 {
		t.Error(s)
	}
}

// P9.2: a parish that gives out another entry with one of its numbers.
func TestForge(t *testing.T) {
	y := modelOf(t, "grazings 1", "begin 3 6 0 0 7", "write 0 miss 0 0 1", "write 0 miss 0 0 2", "write 0 miss 0 0 3", "send 0 1", "day 5")
	check(t, y, "forge 0 1 3 miss 0 0 4", "", api.ErrArg)
	check(t, y, "forge 1 0 0 miss 0 0 4", "", api.ErrArg)
	// The parish 1 has the entry: it has a proof, and one entry is left. The parish 2 has it not yet, nor what stands before it.
	check(t, y, "forge 0 1 1 miss 0 0 4", "1", api.OK)
	check(t, y, "forge 0 2 1 miss 0 0 4", "0", api.OK)
	check(t, y, "forge 0 2 0 miss 0 0 5", "1", api.OK)
	check(t, y, "forge 0 2 0 miss 0 0 5", "0", api.OK)
	tallies := func(want ...string) {
		t.Helper()
		for p := range want {
			if tally, err := y.Tally(p); fmt.Sprint(tally.Have) != want[p] || err != api.OK {
				t.Error(p, tally, err)
			}
		}
	}
	tallies("[3 0 0]", "[1 0 0]", "[1 0 0]")
	check(t, y, "proofs 0", "", api.OK)
	check(t, y, "proofs 1", "0", api.OK)
	check(t, y, "proofs 2", "", api.OK)
	// What counts of the parish 2 is the forged entry, with the day on which it was forged.
	if c, err := y.Claim(2, 0, 0); !slices.Equal(c.Missing, []int{5}) || err != api.OK {
		t.Error(c, err)
	}
	// The proof against the entry 1 is for both its entries; it convicts in the book of the parish itself.
	check(t, y, "send 1 0", "1", api.OK)
	check(t, y, "proofs 0", "0", api.OK)
	tallies("[1 0 0]", "[1 0 0]", "[1 0 0]")
	check(t, y, "write 0 miss 0 0 9", "", api.ErrConvict)
	check(t, y, "write 0 rest 0 0.0", "", api.ErrConvict)
	check(t, y, "forge 0 1 1 miss 0 0 4", "", api.ErrArg)
	// Each book gets a proof with the number 0, in the place of the one that it has.
	check(t, y, "sendall", "3", api.OK)
	tallies("[0 0 0]", "[0 0 0]", "[0 0 0]")
	for p := range 3 {
		check(t, y, fmt.Sprint("proofs ", p), "0", api.OK)
		l, err := y.Proofs(p)
		if len(l) != 1 || l[0].A.No != 0 || l[0].B.No != 0 || l[0].A.Body == l[0].B.Body || err != api.OK {
			t.Error(l, err)
		}
	}
}

// P9.2: several liars, in the order of their numbers.
func TestProofs(t *testing.T) {
	y := modelOf(t, "grazings 1", "begin 5 6 0 0 7")
	for _, p := range []int{4, 0, 3} {
		doAll(t, y, fmt.Sprintf("write %d miss 0 0 1", p), fmt.Sprintf("send %d 1", p), fmt.Sprintf("forge %d 1 0 miss 0 0 2", p))
	}
	check(t, y, "proofs 1", "0 3 4", api.OK)
	check(t, y, "proofs 2", "", api.OK)
	check(t, y, "send 1 2", "3", api.OK)
	check(t, y, "proofs 2", "0 3 4", api.OK)
	check(t, y, "send 1 2", "0", api.OK)
}

// P9.2: sending counts what was new.
func TestSend(t *testing.T) {
	y := modelOf(t, "grazings 1", "begin 3 6 0 0 7", "write 0 miss 0 0 1", "write 0 miss 0 0 2", "write 1 miss 0 0 3")
	check(t, y, "send 2 0", "0", api.OK)
	check(t, y, "send 0 1", "2", api.OK)
	check(t, y, "send 0 1", "0", api.OK)
	check(t, y, "write 0 miss 0 0 1", "0.2", api.OK)
	check(t, y, "send 0 1", "1", api.OK)
	check(t, y, "send 1 2", "4", api.OK)
	check(t, y, "send 1 0", "1", api.OK)
	check(t, y, "sendall", "0", api.OK)
	check(t, y, "write 2 miss 0 0 3", "2.0", api.OK)
	check(t, y, "sendall", "2", api.OK)
	check(t, y, "sendall", "0", api.OK)
	alone := modelOf(t, "grazings 1", "begin 1 6 0 0 7", "write 0 miss 0 0 1")
	check(t, alone, "sendall", "0", api.OK)
}

// P9.2: a proof that arises in a round is sent in the next one, and takes away again what was sent before.
func TestSendallRounds(t *testing.T) {
	y := modelOf(t, "grazings 1", "begin 4 6 0 0 7", "write 3 miss 0 0 1", "forge 3 0 0 miss 0 0 2", "forge 3 1 0 miss 0 0 3")
	m := &plain{}
	for _, line := range []string{"grazings 1", "begin 4 6 0 0 7", "write 3 miss 0 0 1", "forge 3 0 0 miss 0 0 2", "forge 3 1 0 miss 0 0 3"} {
		m.do(line)
	}
	want, _ := m.do("sendall")
	check(t, y, "sendall", want, api.OK)
	check(t, y, "sendall", "0", api.OK)
	for p := range 4 {
		check(t, y, fmt.Sprint("proofs ", p), "3", api.OK)
	}
	if got, want := report(y, 0, 0), m.report(0, 0); got != want {
		t.Error(got, want)
	}
}

// P9.2: the power goes off at each write and sync of an entry. Its record has three sectors: two writes, one of zeros, a sync, a write, a sync.
func TestCrash(t *testing.T) {
	for n := 1; n <= 7; n++ {
		for _, keep := range []string{"0", "9", "7", "8", "99999", "00009", "90", "09"} {
			y := modelOf(t, "grazings 1", "begin 2 6 0 0 7", "write 0 miss 0 0 1", fmt.Sprint("crash 0 ", n))
			first := report(y, 0, 0)
			if n == 7 {
				check(t, y, "write 0 miss 0 0 2", "0.1", api.OK)
				check(t, y, "write 0 miss 0 0 3", "", api.ErrDown)
			} else {
				check(t, y, "write 0 miss 0 0 2", "", api.ErrDown)
			}
			check(t, y, "write 0 miss 0 0 2", "", api.ErrState)
			if _, err := y.Tally(0); err != api.ErrState {
				t.Error(err)
			}
			check(t, y, "open 0 "+keep, "", api.OK)
			// The last write is that of the first sector, which is there as a whole, or not at all: the other bytes are 0.
			there := n == 7 || n >= 5 && (keep[0] == '8' || keep[0] == '9')
			tally, err := y.Tally(0)
			if err != api.OK || there != (tally.Have[0] == 2) || !there && tally.Have[0] != 1 {
				t.Error(n, keep, tally, err)
			}
			if !there && report(y, 0, 0) != first {
				t.Error(n, keep)
			}
			// The disk is not armed any more.
			check(t, y, "write 0 miss 0 0 4", fmt.Sprint("0.", tally.Have[0]), api.OK)
		}
	}
}

// P9.2: crash counts calls from then on, and the last one of several counts; open, also of an open book, ends it.
func TestArm(t *testing.T) {
	y := modelOf(t, "grazings 1", "begin 2 60 0 0 7", "crash 0 2", "crash 0 13")
	check(t, y, "write 0 miss 0 0 1", "0.0", api.OK)
	check(t, y, "proofs 0", "", api.OK)
	check(t, y, "write 0 miss 0 0 1", "0.1", api.OK)
	check(t, y, "write 1 miss 0 0 1", "1.0", api.OK)
	check(t, y, "send 1 0", "", api.ErrDown)
	check(t, y, "send 1 0", "", api.ErrState)
	check(t, y, "open 0 0", "", api.OK)
	check(t, y, "send 1 0", "1", api.OK)
	check(t, y, "crash 0 1", "", api.OK)
	before := report(y, 0, 0)
	check(t, y, "open 0 9", "", api.OK)
	if after := report(y, 0, 0); after != before {
		t.Error(before, after)
	}
	check(t, y, "write 0 miss 0 0 1", "0.2", api.OK)
	check(t, y, "crash 0 1000", "", api.OK)
	check(t, y, "send 0 1", "3", api.OK)
}

// P9.2: of the record that was not safe only what keep says survives: each digit stands for eight bytes of a write.
func TestKeep(t *testing.T) {
	// A count takes three sectors; the power goes off at the last sync, so that the only write that is not safe is that of the first sector, whose last byte tells that there is a record.
	for digit := range 10 {
		y := modelOf(t, "grazings 1", "begin 1 6 0 0 7", "crash 0 6")
		check(t, y, "write 0 miss 0 0 1", "", api.ErrDown)
		check(t, y, fmt.Sprint("open 0 ", digit), "", api.OK)
		want := 0
		if digit >= 8 {
			want = 1
		}
		if tally, err := y.Tally(0); tally.Have[0] != want || err != api.OK {
			t.Error(digit, tally, err)
		}
	}
	y := modelOf(t, "grazings 1", "begin 1 6 0 0 7", "crash 0 6")
	check(t, y, "write 0 miss 0 0 1", "", api.ErrDown)
	check(t, y, "open 0 "+strings.Repeat("9", 1000), "", api.OK)
	if tally, err := y.Tally(0); tally.Have[0] != 1 || err != api.OK {
		t.Error(tally, err)
	}
}

// P9.2: the power goes off while others are being sent to: the book that gets something is not open any more, and the one that gives is.
func TestSendDown(t *testing.T) {
	setup := func() *year.Year {
		return modelOf(t, "grazings 1", "begin 3 6 0 0 7", "write 0 miss 0 0 1", "write 0 miss 0 0 2", "write 2 miss 0 0 1", "crash 1 8")
	}
	y := setup()
	check(t, y, "send 0 1", "", api.ErrDown)
	check(t, y, "send 2 1", "", api.ErrState)
	check(t, y, "proofs 0", "", api.OK)
	check(t, y, "open 1 0", "", api.OK)
	if tally, err := y.Tally(1); !slices.Equal(tally.Have, []int{1, 0, 0}) || err != api.OK {
		t.Error(tally, err)
	}
	// The first error of a send ends a sendall; the parish 2 gets what the parish 0 has in the next one only.
	y = setup()
	check(t, y, "sendall", "", api.ErrDown)
	if tally, err := y.Tally(2); !slices.Equal(tally.Have, []int{0, 0, 1}) || err != api.OK {
		t.Error(tally, err)
	}
	check(t, y, "sendall", "3", api.OK)
	check(t, y, "agree 0 2", "yes", api.OK)
	// A forged entry, too.
	y = setup()
	doAll(t, y, "crash 1 1")
	check(t, y, "forge 0 1 0 miss 0 0 7", "", api.ErrDown)
	check(t, y, "proofs 1", "", api.ErrState)
	check(t, y, "proofs 0", "", api.OK)
	if r := y.Truth(); len(r.Events) != 0 {
		t.Error(r)
	}
	// And when no book is open, there is nothing to be sent.
	for _, p := range []string{"0", "2"} {
		doAll(t, y, "crash "+p+" 1")
		check(t, y, "write "+p+" miss 0 0 0", "", api.ErrDown)
	}
	check(t, y, "sendall", "0", api.OK)
}

// P9.2: a disk has 512 sectors: one for the beginning, and three for each count or short sheet.
func TestFull(t *testing.T) {
	y := modelOf(t, "grazings 1", "begin 4 64 0 0 7")
	for p := range 3 {
		for range 64 {
			doAll(t, y, fmt.Sprintf("write %d miss 0 0 1", p))
		}
	}
	check(t, y, "send 1 0", "64", api.OK)
	check(t, y, "send 2 0", "", api.ErrFull)
	tally, err := y.Tally(0)
	if !slices.Equal(tally.Have, []int{64, 64, 42, 0}) || err != api.OK {
		t.Error(tally, err)
	}
	check(t, y, "send 2 0", "", api.ErrFull)
	check(t, y, "send 2 3", "64", api.OK)
	check(t, y, "send 0 3", "", api.ErrFull)
	if tally, _ := y.Tally(3); !slices.Equal(tally.Have, []int{64, 42, 64, 0}) {
		t.Error(tally)
	}
	check(t, y, "write 3 miss 0 0 1", "", api.ErrFull)
	check(t, y, "sheet 3 0 0 0 1 0", "", api.ErrFull)
	check(t, y, "sendall", "", api.ErrFull)
	// The book is open all the same, also after it was opened again.
	check(t, y, "proofs 3", "", api.OK)
	check(t, y, "open 3 9", "", api.OK)
	if tally, _ := y.Tally(3); !slices.Equal(tally.Have, []int{64, 42, 64, 0}) {
		t.Error(tally)
	}
	check(t, y, "forge 0 3 5 miss 0 0 2", "", api.ErrFull)
	check(t, y, "proofs 3", "", api.OK)
}

// P9.2: large sheets fill the disk of one parish, to its last sector.
func TestFullOfSheets(t *testing.T) {
	// The record of a short sheet with n heads has 167 + 34 n bytes, or one more; so it has 3, 4 and 37 sectors with none, one and 64 heads.
	heads := func(n int) string { return strings.Repeat(" ; ewe 0 0 "+holed, n) }
	for _, x := range []struct {
		ones int
		left int
	}{{6, 6}, {7, 2}} {
		y := modelOf(t, "grazings 1", "begin 1 64 0 0 7")
		for n := range 13 {
			check(t, y, fmt.Sprint("sheet 0 ", n, " 0 0 1 0", heads(64)), fmt.Sprint("0.", n), api.OK)
		}
		for n := range x.ones {
			check(t, y, fmt.Sprint("sheet 0 9 9 ", n, " 9 0", heads(1)), fmt.Sprint("0.", 13+n), api.OK)
		}
		check(t, y, "sheet 0 90 0 0 1 0"+heads(64), "", api.ErrFull)
		more := x.left / 3
		for n := range more {
			check(t, y, "write 0 miss 0 0 1", fmt.Sprint("0.", 13+x.ones+n), api.OK)
		}
		check(t, y, "write 0 miss 0 0 1", "", api.ErrFull)
		check(t, y, "open 0 9", "", api.OK)
		if tally, err := y.Tally(0); !slices.Equal(tally.Have, []int{13 + x.ones + more}) || err != api.OK {
			t.Error(tally, err)
		}
		if roll, _, err := y.Roll(0); len(roll.Sheets) != 13+x.ones || err != api.OK {
			t.Error(len(roll.Sheets), err)
		}
	}
}

// P9.2: what a model returns shares no memory with it.
func TestShares(t *testing.T) {
	y := modelOf(t, "grazings 2", "gate 0 1 5 9", "begin 2 9 1 0 7", "write 0 admit 0 1 0 "+whole, "write 0 admit 0 2 0 "+notch, "write 0 miss 0 1 2", "sheet 0 0 0 0 1 0 ; ewe 0 0 "+whole, "sheet 0 0 0 0 1 0 ; ram 0 0 "+whole, "write 1 miss 0 0 0", "forge 1 0 0 miss 0 0 1", "forge 1 0 0 miss 0 0 2")
	before := report(y, 0, 0)
	y.Fell().Gates[0].A = 7
	r, _ := y.Register(0)
	r.Fell.Gates[0].A, r.Events[0].Flock = 7, 7
	r = y.Truth()
	r.Fell.Gates[0].A, r.Events[0].Flock = 7, 7
	refused, _ := y.Refused(0)
	refused[0].Flock = 7
	roll, conflicts, _ := y.Roll(0)
	roll.Sheets[0].Heads[0].Sex, conflicts[0].A.Heads[0].Sex, conflicts[0].B.Heads[0].Sex = 2, 2, 2
	tally, _ := y.Tally(0)
	tally.Have[0], tally.Heads[0] = 7, 7
	proofs, _ := y.Proofs(0)
	proofs[0].A.No = 7
	c, _ := y.Claim(0, 0, 0)
	c.Missing[0], c.Strays[0][0].Flock = 7, 7
	verdicts, _ := y.Verdicts(0, 0, 0)
	verdicts[0].Flocks[0] = 7
	if after := report(y, 0, 0); after != before {
		t.Error(before, after)
	}
	doAll(t, y, "day 9", "write 0 admit 5 3 1 "+key)
	if r, _ := y.Register(0); r.Fell.Gates[0].A != 0 || len(r.Events) != 2 {
		t.Error(r)
	}
}
