package book_test

import (
	"encoding/binary"
	"hash/fnv"
	"math/bits"
	"slices"
	"strconv"
	"strings"
	"testing"

	"earmark/api"
	"earmark/book"
)

// The tests compare the package with a plain reading of the chapter: hashes by another package's loop; collections that look through all pairs of entries; disks that keep each write and replay them for each read; and books that list the calls of the disk one by one. It shares no code with the package.

const (
	lowest  = -1 << 63
	highest = 1<<63 - 1
)

func plainHash(s string) uint64 {
	f := fnv.New64a()
	f.Write([]byte(s))
	h := f.Sum64()
	_, h = bits.Mul64(h^h>>32, 11400714819323198485)
	return h ^ h>>29
}

func eight(v uint64) string { return string(binary.LittleEndian.AppendUint64(nil, v)) }

func plainImage(secret uint64) uint64 { return plainHash("image" + eight(secret)) }

func plainSecret(seed uint64, l ...byte) uint64 {
	return plainHash("secret" + eight(seed) + string(l))
}

func plainCore(e api.Entry) string {
	length := binary.LittleEndian.AppendUint16(nil, uint16(len(e.Body)))
	return string([]byte{byte(e.Parish), byte(e.No)}) + eight(e.Prev) + string(length) + e.Body
}

func plainEncoding(e api.Entry) string {
	s := plainCore(e)
	for _, x := range e.Seal {
		s += eight(x)
	}
	return s
}

func plainDigest(e api.Entry) int { return int(plainHash(plainCore(e)) & 0xffff) }

func hashOf(e api.Entry) uint64 { return plainHash(plainEncoding(e)) }

func bitOf(digest, i int) int { return digest / (1 << i) % 2 }

func plainSeal(seed uint64, e api.Entry) api.Entry {
	digest := plainDigest(e)
	for i := range 16 {
		e.Seal[i] = plainSecret(seed, byte(e.Parish), byte(e.No), byte(i), byte(bitOf(digest, i)))
	}
	return e
}

func plainStick(seed uint64, parish, no int) api.Stick {
	var s api.Stick
	for i := range 16 {
		for v := range 2 {
			s.Images[i][v] = plainImage(plainSecret(seed, byte(parish), byte(no), byte(i), byte(v)))
		}
	}
	return s
}

func plainFits(s api.Stick, e api.Entry) bool {
	for i := range 16 {
		if plainImage(e.Seal[i]) != s.Images[i][bitOf(plainDigest(e), i)] {
			return false
		}
	}
	return true
}

func plainValid(e api.Entry) bool {
	return e.Parish >= 0 && e.Parish < 8 && e.No >= 0 && e.No < 64 && len(e.Body) <= 4096
}

func hasStick(sticks [][]api.Stick, e api.Entry) bool {
	return plainValid(e) && e.Parish < len(sticks) && e.No < len(sticks[e.Parish])
}

func isSealed(sticks [][]api.Stick, e api.Entry) bool {
	return hasStick(sticks, e) && plainFits(sticks[e.Parish][e.No], e)
}

// plainLog is what is known of a parish; without a proof the number bound is greater than all entries' numbers.
type plainLog struct {
	entries []api.Entry
	proof   []api.Proof
}

func (g plainLog) bound() int {
	if len(g.proof) > 0 {
		return g.proof[0].A.No
	}
	return 64
}

func (g plainLog) head() uint64 {
	if n := len(g.entries); n > 0 {
		return hashOf(g.entries[n-1])
	}
	return 0
}

// extended returns the log with one entry more.
func (g plainLog) extended(e api.Entry) plainLog {
	g.entries = append(slices.Clone(g.entries), e)
	return g
}

// convicted returns the log with a proof.
func (g plainLog) convicted(p api.Proof) plainLog {
	return plainLog{slices.Clone(g.entries[:min(len(g.entries), p.A.No)]), []api.Proof{p}}
}

// step is one change of a log, with the payload of its record.
type step struct {
	parish  int
	log     plainLog
	payload string
}

// convictionOf returns the proof that follows for a parish from candidates and its log, if there is a new one.
func convictionOf(g plainLog, candidates []api.Entry) []api.Proof {
	considered := slices.Concat(candidates, g.entries)
	for _, p := range g.proof {
		considered = append(considered, p.A, p.B)
	}
	var best []api.Proof
	better := func(p api.Proof) bool {
		if len(best) == 0 || p.A.No != best[0].A.No {
			return len(best) == 0 || p.A.No < best[0].A.No
		}
		if a, b := plainEncoding(p.A), plainEncoding(best[0].A); a != b {
			return a < b
		}
		return plainEncoding(p.B) < plainEncoding(best[0].B)
	}
	for _, a := range considered {
		for _, b := range considered {
			p := api.Proof{A: a, B: b}
			if a.No == b.No && plainDigest(a) != plainDigest(b) && plainEncoding(a) < plainEncoding(b) && better(p) {
				best = []api.Proof{p}
			}
		}
	}
	if len(best) > 0 && len(g.proof) > 0 && g.proof[0].A.No <= best[0].A.No {
		return nil
	}
	return best
}

// stepsOf returns what happens one after the other if a collection takes a list.
func stepsOf(sticks [][]api.Stick, logs []plainLog, l []api.Entry) []step {
	var steps []step
	for parish, g := range logs {
		var candidates []api.Entry
		for _, e := range l {
			if e.Parish == parish && isSealed(sticks, e) {
				candidates = append(candidates, e)
			}
		}
		for _, p := range convictionOf(g, candidates) {
			g = g.convicted(p)
			steps = append(steps, step{parish, g, "\x03" + plainEncoding(p.A) + plainEncoding(p.B)})
		}
		for {
			var next []api.Entry
			for _, e := range candidates {
				if e.No == len(g.entries) && e.No < g.bound() && e.Prev == g.head() && (len(next) == 0 || plainEncoding(e) < plainEncoding(next[0])) {
					next = []api.Entry{e}
				}
			}
			if len(next) == 0 {
				break
			}
			g = g.extended(next[0])
			steps = append(steps, step{parish, g, "\x02" + plainEncoding(next[0])})
		}
	}
	return steps
}

func listed(logs []plainLog) ([]api.Entry, []api.Proof) {
	var l []api.Entry
	var p []api.Proof
	for _, g := range logs {
		l = append(l, g.entries...)
		p = append(p, g.proof...)
	}
	return l, p
}

// plainCourt returns the entries and proofs of an empty collection that has taken a list.
func plainCourt(sticks [][]api.Stick, l []api.Entry) ([]api.Entry, []api.Proof) {
	logs := make([]plainLog, len(sticks))
	for _, s := range stepsOf(sticks, logs, l) {
		logs[s.parish] = s.log
	}
	return listed(logs)
}

// plainDisk keeps what was safe and each write since then.
type plainDisk struct {
	safe   []string
	at     []int
	texts  []string
	up     bool
	armed  int
	losses int
}

func newPlainDisk(sectors int) *plainDisk {
	return &plainDisk{safe: slices.Repeat([]string{zeros}, sectors), up: true}
}

var zeros = strings.Repeat("\x00", 64)

// after returns the sectors after the first n bytes of each write, where n is the element of lengths.
func (d *plainDisk) after(lengths []int) []string {
	l := slices.Clone(d.safe)
	for i, n := range lengths {
		l[d.at[i]] = d.texts[i][:n] + l[d.at[i]][n:]
	}
	return l
}

func (d *plainDisk) image() []string { return d.after(slices.Repeat([]int{64}, len(d.at))) }

// goesOff counts a call, and reports whether the power goes off at it.
func (d *plainDisk) goesOff() bool {
	if d.armed > 0 {
		d.armed--
		if d.armed == 0 {
			d.up = false
			d.losses++
		}
	}
	return !d.up
}

func (d *plainDisk) write(at int, s string) api.Errno {
	if !d.up {
		return api.ErrDown
	}
	if at < 0 || at >= len(d.safe) || len(s) != 64 {
		return api.ErrArg
	}
	d.at, d.texts = append(d.at, at), append(d.texts, s)
	if d.goesOff() {
		return api.ErrDown
	}
	return api.OK
}

func (d *plainDisk) sync() api.Errno {
	if !d.up || d.goesOff() {
		return api.ErrDown
	}
	d.safe = d.image()
	d.at, d.texts = nil, nil
	return api.OK
}

func (d *plainDisk) restart(keep string) {
	if d.up {
		d.losses++
	}
	lengths := make([]int, len(d.at))
	last := -1
	for i := range min(len(keep), len(d.at)) {
		if keep[i] != 0 {
			lengths[i], last = 64, i
		}
	}
	if last >= 0 {
		lengths[last] = min(int(keep[last]), 64)
	}
	d.safe = d.after(lengths)
	d.at, d.texts = nil, nil
	d.up, d.armed = true, 0
}

// plainBook is a book on a plainDisk.
type plainBook struct {
	disk   *plainDisk
	sticks [][]api.Stick
	logs   []plainLog
	end    int
	losses int
}

func plainSticksHash(sticks [][]api.Stick) uint64 {
	s := ""
	for _, l := range sticks {
		s += string([]byte{byte(len(l))})
		for _, x := range l {
			for i := range 16 {
				s += eight(x.Images[i][0]) + eight(x.Images[i][1])
			}
		}
	}
	return plainHash(s)
}

// sectorsOf returns the sectors of a record.
func sectorsOf(payload string) []string {
	s := string(binary.LittleEndian.AppendUint32(nil, uint32(len(payload))))
	head := (payload + zeros)[:59]
	l := []string{s + head + "\x01"}
	for rest := payload[min(59, len(payload)):]; rest != ""; rest = rest[min(64, len(rest)):] {
		l = append(l, (rest + zeros)[:64])
	}
	return l
}

// write writes a record.
func (b *plainBook) write(payload string) api.Errno {
	l := sectorsOf(payload)
	behind := b.end + len(l)
	if behind > len(b.disk.safe) {
		return api.ErrFull
	}
	var errs []api.Errno
	for i, s := range l[1:] {
		errs = append(errs, b.disk.write(b.end+1+i, s))
	}
	if behind < len(b.disk.safe) {
		errs = append(errs, b.disk.write(behind, zeros))
	}
	errs = append(errs, b.disk.sync(), b.disk.write(b.end, l[0]), b.disk.sync())
	if slices.Contains(errs, api.ErrDown) {
		return api.ErrDown
	}
	b.end = behind
	return api.OK
}

func newPlainBook(d *plainDisk, sticks [][]api.Stick) *plainBook {
	return &plainBook{disk: d, sticks: sticks, logs: make([]plainLog, len(sticks)), losses: d.losses}
}

func plainMake(d *plainDisk, sticks [][]api.Stick) (*plainBook, api.Errno) {
	if !d.up {
		return nil, api.ErrDown
	}
	b := newPlainBook(d, sticks)
	return b, b.write("\x01" + eight(plainSticksHash(sticks)))
}

// plainEntry returns the entry that has this encoding, if there is one.
func plainEntry(s string) (api.Entry, bool) {
	if len(s) < 140 {
		return api.Entry{}, false
	}
	n := len(s) - 140
	e := api.Entry{Parish: int(s[0]), No: int(s[1]), Prev: binary.LittleEndian.Uint64([]byte(s[2:10])), Body: s[12 : 12+n]}
	for i := range 16 {
		e.Seal[i] = binary.LittleEndian.Uint64([]byte(s[12+n+8*i:]))
	}
	return e, plainValid(e) && plainEncoding(e) == s
}

// payloadAt returns the payload of the record at a sector, if there is one.
func payloadAt(image []string, at int) (string, bool) {
	if at >= len(image) || image[at][63] != 1 {
		return "", false
	}
	n := int(binary.LittleEndian.Uint32([]byte(image[at][:4])))
	if n < 1 || n > 16383 || at+1+(n+4)/64 > len(image) {
		return "", false
	}
	s := image[at][4:63] + strings.Join(image[at+1:at+1+(n+4)/64], "")
	return s[:n], true
}

// plainOpen reads a book from the sectors of a disk.
func plainOpen(d *plainDisk, sticks [][]api.Stick) (*plainBook, api.Errno) {
	if !d.up {
		return nil, api.ErrDown
	}
	b := newPlainBook(d, sticks)
	image := d.image()
	if s, ok := payloadAt(image, 0); !ok || s != "\x01"+eight(plainSticksHash(sticks)) {
		return nil, api.ErrDisk
	}
	for b.end = 1; ; {
		s, ok := payloadAt(image, b.end)
		if !ok || !b.continues(s) {
			return b, api.OK
		}
		b.end += 1 + (len(s)+4)/64
	}
}

// continues changes the book by a record with this payload, and reports whether it can be the next one.
func (b *plainBook) continues(s string) bool {
	if s[0] == 2 {
		e, ok := plainEntry(s[1:])
		if !ok || !isSealed(b.sticks, e) {
			return false
		}
		g := b.logs[e.Parish]
		if e.No != len(g.entries) || e.No >= g.bound() || e.Prev != g.head() {
			return false
		}
		b.logs[e.Parish] = g.extended(e)
		return true
	}
	for n := 140; s[0] == 3 && n < len(s); n++ {
		x, okX := plainEntry(s[1:n])
		y, okY := plainEntry(s[n:])
		if !okX || !okY {
			continue
		}
		if x.Parish != y.Parish || x.No != y.No || plainDigest(x) == plainDigest(y) || plainEncoding(x) >= plainEncoding(y) || !isSealed(b.sticks, x) || !isSealed(b.sticks, y) || x.No >= b.logs[x.Parish].bound() {
			return false
		}
		b.logs[x.Parish] = b.logs[x.Parish].convicted(api.Proof{A: x, B: y})
		return true
	}
	return false
}

func (b *plainBook) take(l []api.Entry) (int, api.Errno) {
	if b.losses != b.disk.losses {
		return 0, api.ErrDown
	}
	n := 0
	for _, s := range stepsOf(b.sticks, b.logs, l) {
		if err := b.write(s.payload); err != api.OK {
			return 0, err
		}
		b.logs[s.parish] = s.log
		n++
	}
	return n, api.OK
}

func (b *plainBook) add(e api.Entry) api.Errno {
	if b.losses != b.disk.losses {
		return api.ErrDown
	}
	if !hasStick(b.sticks, e) {
		return api.ErrEntry
	}
	if !plainFits(b.sticks[e.Parish][e.No], e) {
		return api.ErrSeal
	}
	g := b.logs[e.Parish]
	if e.No >= g.bound() {
		return api.ErrConvict
	}
	if slices.Contains(g.entries, e) {
		return api.OK
	}
	if e.No < len(g.entries) && plainDigest(e) != plainDigest(g.entries[e.No]) {
		if _, err := b.take([]api.Entry{e}); err != api.OK {
			return err
		}
		return api.ErrConvict
	}
	if e.No != len(g.entries) || e.Prev != g.head() {
		return api.ErrEntry
	}
	if err := b.write("\x02" + plainEncoding(e)); err != api.OK {
		return err
	}
	b.logs[e.Parish] = g.extended(e)
	return api.OK
}

func (b *plainBook) tally() api.Tally {
	var t api.Tally
	for _, g := range b.logs {
		t.Have, t.Heads = append(t.Have, len(g.entries)), append(t.Heads, g.head())
	}
	return t
}

func (b *plainBook) wanted(t api.Tally) []api.Entry {
	var l []api.Entry
	for p, g := range b.logs {
		from := 0
		if n := t.Have[p]; n > 0 && n <= len(g.entries) && hashOf(g.entries[n-1]) == t.Heads[p] {
			from = n
		}
		l = append(l, g.entries[from:]...)
	}
	return l
}

// seedOf is the seed with which the entries of a parish are sealed in the tests.
func seedOf(parish int) uint64 { return uint64(parish)*0x9e3779b97f4a7c15 + 5 }

// sticksOf returns the sticks of parishes with these numbers of entries.
func sticksOf(entries ...int) [][]api.Stick {
	var l [][]api.Stick
	for parish, n := range entries {
		var x []api.Stick
		for no := range n {
			x = append(x, plainStick(seedOf(parish), parish, no))
		}
		l = append(l, x)
	}
	return l
}

// sealed returns the sealed entry with these fields.
func sealed(parish, no int, prev uint64, body string) api.Entry {
	return plainSeal(seedOf(parish), api.Entry{Parish: parish, No: no, Prev: prev, Body: body})
}

// behind returns the entry with a body that follows another one.
func behind(e api.Entry, body string) api.Entry {
	return sealed(e.Parish, e.No+1, hashOf(e), body)
}

// logOf returns the log of a parish with these bodies.
func logOf(parish int, bodies ...string) []api.Entry {
	var l []api.Entry
	prev := uint64(0)
	for no, body := range bodies {
		e := sealed(parish, no, prev, body)
		prev = hashOf(e)
		l = append(l, e)
	}
	return l
}

// twin returns another entry with the parish, the number and the digest of e, and with this Prev. It has the seal of e, too.
func twin(e api.Entry, prev uint64) api.Entry {
	x := e
	x.Prev = prev
	for i := 0; ; i++ {
		x.Body = "twin " + strconv.Itoa(i)
		if plainDigest(x) == plainDigest(e) && x != e {
			return x
		}
	}
}

// other returns a sealed entry with the parish, the number and Prev of e, and another body and digest.
func other(e api.Entry, body string) api.Entry {
	for {
		if x := sealed(e.Parish, e.No, e.Prev, body); x != e && plainDigest(x) != plainDigest(e) {
			return x
		}
		body += "."
	}
}

func badEntries() []api.Entry {
	long := strings.Repeat("x", 4097)
	return []api.Entry{
		{Parish: -1}, {Parish: 8}, {Parish: lowest}, {Parish: highest}, {Parish: 256}, {Parish: 1 << 32},
		{No: -1}, {No: 64}, {No: lowest}, {No: highest}, {No: 256}, {No: 1 << 40},
		{Body: long}, {Parish: 7, No: 63, Body: strings.Repeat(long, 16)},
	}
}

func badSticks() [][][]api.Stick {
	one := make([]api.Stick, 1)
	return [][][]api.Stick{
		nil, {}, {nil}, {{}}, {one, nil}, {nil, one}, {one, {}, one},
		slices.Repeat([][]api.Stick{one}, 9), {make([]api.Stick, 65)}, {one, make([]api.Stick, 65)},
	}
}

// diskImage returns the sectors of a disk whose power is on.
func diskImage(t *testing.T, d *book.Disk) []string {
	t.Helper()
	var l []string
	for at := range d.Sectors() {
		s, err := d.Read(at)
		if err != api.OK {
			t.Fatal(at, err)
		}
		l = append(l, s)
	}
	return l
}

func newDisk(t *testing.T, sectors int) *book.Disk {
	t.Helper()
	d, err := book.NewDisk(sectors)
	if err != api.OK {
		t.Fatal(err)
	}
	return d
}

// newBook returns an empty book on a new disk.
func newBook(t *testing.T, sectors int, sticks [][]api.Stick) (*book.Book, *book.Disk) {
	t.Helper()
	d := newDisk(t, sectors)
	b, err := book.Make(d, sticks)
	if err != api.OK {
		t.Fatal(err)
	}
	return b, d
}

func sameTally(a, b api.Tally) bool {
	return slices.Equal(a.Have, b.Have) && slices.Equal(a.Heads, b.Heads)
}
