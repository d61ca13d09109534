package book_test

import (
	"math/rand"
	"slices"
	"strings"
	"testing"

	"earmark/api"
	"earmark/book"
)

// pair is a book on a disk, and the plain ones that have to do the same.
type pair struct {
	t         *testing.T
	disk      *book.Disk
	book      *book.Book
	plainDisk *plainDisk
	plain     *plainBook
	sticks    [][]api.Stick
}

func newPair(t *testing.T, sectors int, sticks [][]api.Stick) *pair {
	p := &pair{t: t, disk: newDisk(t, sectors), plainDisk: newPlainDisk(sectors), sticks: sticks}
	p.remake()
	return p
}

// remake makes an empty book on the disk, and reports whether it could.
func (p *pair) remake() bool {
	p.t.Helper()
	b, err := book.Make(p.disk, p.sticks)
	plain, want := plainMake(p.plainDisk, p.sticks)
	return p.replace(b, err, plain, want)
}

// reopen opens the book that is on the disk, and reports whether it could.
func (p *pair) reopen() bool {
	p.t.Helper()
	b, err := book.Open(p.disk, p.sticks)
	plain, want := plainOpen(p.plainDisk, p.sticks)
	return p.replace(b, err, plain, want)
}

func (p *pair) replace(b *book.Book, err api.Errno, plain *plainBook, want api.Errno) bool {
	p.t.Helper()
	if err != want || (b == nil) != (err != api.OK) {
		p.t.Fatal(b, err, want)
	}
	if err == api.OK {
		p.book, p.plain = b, plain
	}
	p.check()
	return err == api.OK
}

func (p *pair) add(e api.Entry) api.Errno {
	p.t.Helper()
	err, want := p.book.Add(e), p.plain.add(e)
	if err != want {
		p.t.Fatal(e, err, want)
	}
	p.check()
	return err
}

func (p *pair) take(l []api.Entry) (int, api.Errno) {
	p.t.Helper()
	kept := slices.Clone(l)
	n, err := p.book.Take(l)
	m, want := p.plain.take(l)
	if n != m || err != want || !slices.Equal(l, kept) {
		p.t.Fatal(n, err, m, want)
	}
	p.check()
	return n, err
}

func (p *pair) arm(n int) {
	p.disk.Arm(n)
	p.plainDisk.armed = max(n, 0)
}

func (p *pair) restart(keep string) {
	p.t.Helper()
	p.disk.Restart(keep)
	p.plainDisk.restart(keep)
	p.check()
}

// check checks the disk, and what the methods of the book return that need no disk.
func (p *pair) check() {
	p.t.Helper()
	if p.disk.Up() != p.plainDisk.up {
		p.t.Fatal(p.disk.Up())
	}
	if p.disk.Up() && !slices.Equal(diskImage(p.t, p.disk), p.plainDisk.image()) {
		p.t.Fatal("the disks differ")
	}
	if p.book != nil {
		checkBook(p.t, p.book, p.plain.logs)
	}
}

// checkBook checks what a book contains.
func checkBook(t *testing.T, b *book.Book, logs []plainLog) {
	t.Helper()
	l, proofs := listed(logs)
	if !slices.Equal(b.All(), l) || !slices.Equal(b.Proofs(), proofs) {
		t.Fatal(b.All(), b.Proofs(), l, proofs)
	}
	if x := (&plainBook{logs: logs}).tally(); !sameTally(b.Tally(), x) {
		t.Fatal(b.Tally(), x)
	}
	for parish, g := range logs {
		if l, err := b.Entries(parish); !slices.Equal(l, g.entries) || err != api.OK {
			t.Fatal(parish, l, err)
		}
	}
	for _, parish := range []int{lowest, -1, len(logs), 8, highest} {
		if l, err := b.Entries(parish); len(l) > 0 || err != api.ErrArg {
			t.Fatal(parish, l, err)
		}
	}
}

// P8.5: the chapter's examples.
func TestBookExamples(t *testing.T) {
	sticks := sticksOf(2)
	p := newPair(t, 1, sticks)
	e := sealed(0, 0, 0, "e")
	if err := p.add(e); err != api.ErrFull {
		t.Error(err)
	}
	p = newPair(t, 64, sticks)
	if err := p.add(e); err != api.OK {
		t.Error(err)
	}
	x := other(e, "x")
	if err := p.add(x); err != api.ErrConvict {
		t.Error(err)
	}
	if l, err := p.book.Entries(0); len(l) > 0 || err != api.OK || len(p.book.Proofs()) != 1 {
		t.Error(l, err, p.book.Proofs())
	}
}

// P8.5: what is on the disk after the first records.
func TestRecords(t *testing.T) {
	sticks := sticksOf(3, 1)
	d := newDisk(t, 12)
	for at := range 12 {
		d.Write(at, filled("\x01"))
	}
	b, err := book.Make(d, sticks)
	if err != api.OK {
		t.Fatal(err)
	}
	// Of the kind and the 140 bytes of the encoding 59 are in the first sector, 64 in the second one, and 18 in the third one.
	e := sealed(1, 0, 0, "")
	if err := b.Add(e); err != api.OK {
		t.Fatal(err)
	}
	s := plainEncoding(e)
	want := []string{
		"\x09\x00\x00\x00\x01" + eight(plainSticksHash(sticks)) + zeros[:50] + "\x01",
		"\x8d\x00\x00\x00\x02" + s[:58] + "\x01", s[58:122], s[122:] + zeros[:46], zeros, filled("\x01"),
	}
	if l := diskImage(t, d)[:6]; !slices.Equal(l, want) {
		t.Errorf("%q\n%q", l, want)
	}
	// With a body of 46 bytes a record fills three sectors just.
	for n, sectors := range map[int]int{0: 3, 45: 3, 46: 3, 47: 4, 110: 4, 111: 5, 4096: 67} {
		b, d := newBook(t, 80, sticks)
		if err := b.Add(sealed(1, 0, 0, strings.Repeat("b", n))); err != api.OK {
			t.Fatal(err)
		}
		last, _ := d.Read(sectors)
		next, _ := d.Read(sectors + 1)
		if last == zeros || next != zeros {
			t.Errorf("%d %q %q", n, last, next)
		}
		if err := b.Add(sealed(0, 0, 0, "")); err != api.OK {
			t.Fatal(n, err)
		}
		if next, _ = d.Read(sectors + 1); next[0] != 141 || next[63] != 1 {
			t.Errorf("%d %q", n, next)
		}
	}
}

// P8.5: Make and Open with wrong arguments, and disks without a book.
func TestMakeAndOpenErrors(t *testing.T) {
	sticks := sticksOf(2, 1)
	for _, call := range []func(*book.Disk, [][]api.Stick) (*book.Book, api.Errno){book.Make, book.Open} {
		d := newDisk(t, 4)
		for _, s := range append(badSticks(), sticks) {
			if b, err := call(nil, s); b != nil || err != api.ErrArg {
				t.Error(b, err)
			}
		}
		d.Arm(1)
		d.Sync()
		for _, s := range badSticks() {
			if b, err := call(d, s); b != nil || err != api.ErrStick {
				t.Error(b, err)
			}
		}
		if b, err := call(d, sticks); b != nil || err != api.ErrDown {
			t.Error(b, err)
		}
		d.Restart("")
		if l := diskImage(t, d); !slices.Equal(l, slices.Repeat([]string{zeros}, 4)) {
			t.Error(l)
		}
	}
	d := newDisk(t, 4)
	if b, err := book.Open(d, sticks); b != nil || err != api.ErrDisk {
		t.Error(b, err)
	}
	if _, err := book.Make(d, sticks); err != api.OK {
		t.Error(err)
	}
	other := sticksOf(2, 1)
	other[1][0].Images[15][1]++
	for _, s := range [][][]api.Stick{other, sticksOf(2), sticksOf(1, 2), sticksOf(2, 1, 1), sticksOf(3)} {
		if b, err := book.Open(d, s); b != nil || err != api.ErrDisk {
			t.Error(b, err)
		}
	}
	if b, err := book.Open(d, sticks); err != api.OK || len(b.All()) > 0 {
		t.Error(err)
	}
}

// P8.5: the power goes off at each call of Make, on a disk that was used before.
func TestMakeInterrupted(t *testing.T) {
	sticks := sticksOf(2)
	log := logOf(0, "a", "b")
	for n := 1; n < 7; n++ {
		for _, keep := range []string{"", "\x40", "\x07", "\x00\x09", "\x01\x20"} {
			p := newPair(t, 9, sticks)
			p.take(log[:1])
			p.arm(n)
			made := p.remake()
			if made != (n > 4) {
				t.Fatal(n, made)
			}
			p.restart(keep)
			p.reopen()
		}
	}
}

// P8.5: which error comes first.
func TestAddErrors(t *testing.T) {
	sticks := sticksOf(4, 2)
	log := logOf(0, "a", "b", "c", "d")
	p := newPair(t, 60, sticks)
	p.take(log[:3])
	bad := log[3]
	bad.Seal[0]++
	for _, x := range []struct {
		e    api.Entry
		want api.Errno
	}{
		{sealed(1, 2, 0, "no stick"), api.ErrEntry}, {sealed(2, 0, 0, "no parish"), api.ErrEntry},
		{bad, api.ErrSeal}, {api.Entry{}, api.ErrSeal}, {api.Entry{Parish: 1, No: 1}, api.ErrSeal},
		{log[0], api.OK}, {log[2], api.OK},
		{twin(log[1], log[1].Prev), api.ErrEntry}, {twin(log[2], 7), api.ErrEntry}, {sealed(0, 3, 7, "wrong Prev"), api.ErrEntry},
		{sealed(1, 1, 0, "too early"), api.ErrEntry}, {sealed(1, 0, 1, "wrong Prev"), api.ErrEntry},
		{log[3], api.OK}, {log[3], api.OK},
		{sealed(0, 2, 7, "convicts whatever its Prev is"), api.ErrConvict},
		{log[2], api.ErrConvict}, {log[3], api.ErrConvict}, {sealed(0, 3, 0, "d"), api.ErrConvict}, {bad, api.ErrSeal}, {log[1], api.OK},
		{twin(log[1], log[1].Prev), api.ErrEntry},
		{other(log[0], "a lesser number"), api.ErrConvict}, {log[0], api.ErrConvict}, {log[1], api.ErrConvict},
		{sealed(1, 0, 0, "another parish"), api.OK},
	} {
		if err := p.add(x.e); err != x.want {
			t.Error(x.e, err, x.want)
		}
	}
	for _, e := range badEntries() {
		if err := p.add(e); err != api.ErrEntry {
			t.Error(e.Parish, e.No, err)
		}
	}
	p.restart("")
	for _, e := range append(badEntries(), log[0], bad) {
		if err := p.add(e); err != api.ErrDown {
			t.Error(err)
		}
	}
	for _, l := range [][]api.Entry{nil, log} {
		if n, err := p.take(l); n != 0 || err != api.ErrDown {
			t.Error(n, err)
		}
	}
}

// P8.5: a disk gets full.
func TestFull(t *testing.T) {
	sticks := sticksOf(9, 2)
	log := logOf(0, bodies(9)...)
	short := sealed(1, 0, 0, "")
	long := append(logOf(0, "a", "b"), other(log[0], strings.Repeat("long", 100)))
	for sectors := 1; sectors < 60; sectors++ {
		p := newPair(t, sectors, sticks)
		for _, e := range log {
			p.add(e)
		}
		p.add(short)
		p.reopen()
		p.add(other(log[0], "x"))
		p.add(short)
		p.reopen()
		p = newPair(t, sectors, sticks)
		p.take(slices.Concat(log, []api.Entry{short}))
		p.reopen()
		p.take([]api.Entry{short, long[2]})
		p.reopen()
	}
	// The entry would have room, but not the proof ahead of it.
	p := newPair(t, 8, sticks)
	if n, err := p.take([]api.Entry{long[0], long[2], short}); n != 0 || err != api.ErrFull || len(p.book.All()) > 0 {
		t.Error(n, err)
	}
	// What was taken ahead of the full disk stays, though it is not counted.
	if n, err := p.take([]api.Entry{log[0], long[1], short, sealed(1, 1, hashOf(short), "")}); n != 0 || err != api.ErrFull || len(p.book.All()) != 2 {
		t.Error(n, err, p.book.All())
	}
}

// thrown counts what has happened in thrown calls.
type thrown struct{ proofs, downs, fulls, added, taken int }

// call does one thrown call.
func (x *thrown) call(r *rand.Rand, p *pair, all []api.Entry) {
	p.t.Helper()
	switch k := r.Intn(20); {
	case k < 9:
		switch p.add(all[r.Intn(len(all))]) {
		case api.OK:
			x.added++
		case api.ErrDown:
			x.downs++
		case api.ErrFull:
			x.fulls++
		}
	case k < 13:
		l := some(r, all, 1+r.Intn(30))
		n, err := p.take(l)
		if m, again := p.take(l); err == api.OK && again == api.OK && m != 0 {
			p.t.Fatal(n, m)
		}
		x.taken += n
	case k < 16:
		p.arm(r.Intn(12))
	case k < 17:
		p.reopen()
	case k < 18:
		p.restart(thrownKeep(r))
	}
}

// P8.5, P8.11: thrown calls on books and disks, with and without losses of power.
func TestBookCalls(t *testing.T) {
	r := rand.New(rand.NewSource(87))
	var x thrown
	var sticks [][]api.Stick
	var all []api.Entry
	for n := range 240 {
		if n%12 == 0 {
			sticks = sticksOf([]int{1 + r.Intn(4), 1 + r.Intn(6), 3}[:1+n/12%3]...)
			all = pool(r, sticks)
		}
		p := newPair(t, []int{6, 20, 60, 200}[n%4], sticks)
		for range 50 {
			if p.plain.losses != p.plainDisk.losses && r.Intn(4) > 0 {
				p.restart(thrownKeep(r))
				if !p.reopen() {
					t.Fatal("the beginning is lost")
				}
			}
			x.call(r, p, all)
		}
		x.proofs += len(p.book.Proofs())
	}
	if x.proofs < 100 || x.downs < 100 || x.fulls < 100 || x.added < 200 || x.taken < 200 {
		t.Error(x)
	}
}

// P8.5: what Wanted returns for any tally.
func TestWanted(t *testing.T) {
	r := rand.New(rand.NewSource(88))
	sticks := sticksOf(5, 3, 4)
	logs := [][]api.Entry{logOf(0, bodies(5)...), nil, logOf(2, bodies(4)...)}
	p := newPair(t, 200, sticks)
	p.take(slices.Concat(logs[0], logs[2][:3]))
	heads := []uint64{0, 1, hashOf(logs[2][3])}
	for _, e := range p.book.All() {
		heads = append(heads, hashOf(e))
	}
	matches := 0
	for range 3000 {
		var x api.Tally
		for range 3 {
			x.Have = append(x.Have, []int{0, 0, 1, 2, 3, 4, 5, 6, 64, highest}[r.Intn(10)])
			x.Heads = append(x.Heads, heads[r.Intn(len(heads))])
		}
		if r.Intn(2) == 0 && x.Have[0] < 6 && x.Have[0] > 0 {
			x.Heads[0] = hashOf(logs[0][x.Have[0]-1])
		}
		l, err := p.book.Wanted(x)
		if !slices.Equal(l, p.plain.wanted(x)) || err != api.OK {
			t.Fatal(x, l, err)
		}
		if len(l) < 8 {
			matches++
		}
	}
	if matches < 500 {
		t.Error(matches)
	}
	for _, x := range []api.Tally{
		{}, {Have: []int{0, 0, 0}}, {Heads: make([]uint64, 3)}, {Have: []int{0, 0}, Heads: make([]uint64, 2)}, {Have: make([]int, 4), Heads: make([]uint64, 4)},
		{Have: make([]int, 3), Heads: make([]uint64, 2)}, {Have: make([]int, 3), Heads: make([]uint64, 4)}, {Have: make([]int, 2), Heads: make([]uint64, 3)}, {Have: make([]int, 4), Heads: make([]uint64, 3)},
		{Have: []int{0, 0, -1}, Heads: make([]uint64, 3)}, {Have: []int{lowest, 0, 0}, Heads: make([]uint64, 3)},
	} {
		if l, err := p.book.Wanted(x); len(l) > 0 || err != api.ErrArg {
			t.Error(x, l, err)
		}
	}
	// P8.11: of what it has itself, a book wants nothing. The disk is not used for it.
	p.arm(1)
	p.add(logs[2][3])
	if l, err := p.book.Wanted(p.book.Tally()); len(l) > 0 || err != api.OK {
		t.Error(l, err)
	}
	if l, err := p.book.Wanted(api.Tally{Have: make([]int, 3), Heads: make([]uint64, 3)}); len(l) != 8 || err != api.OK {
		t.Error(l, err)
	}
	p.check()
}

// P8.5: a book shares no memory with its arguments and results.
func TestBookMemory(t *testing.T) {
	sticks := sticksOf(3, 3)
	b, d := newBook(t, 100, sticks)
	sticks[0][0], sticks[0][1], sticks[1] = api.Stick{}, api.Stick{}, nil
	log := logOf(0, "a", "b", "c")
	l := slices.Concat(log, []api.Entry{sealed(1, 0, 0, "x"), sealed(1, 0, 0, "y")})
	kept := slices.Clone(l)
	if n, err := b.Take(l); n != 4 || err != api.OK {
		t.Fatal(n, err)
	}
	clear(l)
	clear(b.All())
	clear(b.Proofs())
	clear(b.Tally().Have)
	clear(b.Tally().Heads)
	x, _ := b.Entries(0)
	clear(x)
	x, _ = b.Wanted(api.Tally{Have: []int{1, 0}, Heads: []uint64{hashOf(log[0]), 0}})
	if !slices.Equal(x, log[1:]) {
		t.Error(x)
	}
	clear(x)
	logs := make([]plainLog, 2)
	for _, s := range stepsOf(sticksOf(3, 3), logs, kept) {
		logs[s.parish] = s.log
	}
	checkBook(t, b, logs)
	again := sticksOf(3, 3)
	o, err := book.Open(d, again)
	if err != api.OK {
		t.Fatal(err)
	}
	clear(again)
	checkBook(t, o, logs)
	if err := o.Add(log[2]); err != api.OK {
		t.Error(err)
	}
	if err := o.Add(other(log[2], "z")); err != api.ErrConvict {
		t.Error(err)
	}
}
