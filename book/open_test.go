package book_test

import (
	"encoding/binary"
	"slices"
	"strings"
	"testing"

	"earmark/api"
	"earmark/book"
)

// openImage opens a book on a disk with these sectors, and compares it with the plain reading of them. It returns the number of its entries and of its proofs, and whether there is a book.
func openImage(t *testing.T, sticks [][]api.Stick, image []string) (int, int, bool) {
	t.Helper()
	d := newDisk(t, len(image))
	plain := newPlainDisk(len(image))
	for at, s := range image {
		if err := d.Write(at, s); err != api.OK {
			t.Fatal(err)
		}
	}
	plain.safe = slices.Clone(image)
	b, err := book.Open(d, sticks)
	o, want := plainOpen(plain, sticks)
	if err != want || (b == nil) != (err != api.OK) {
		t.Fatal(err, want)
	}
	if b == nil {
		return 0, 0, false
	}
	checkBook(t, b, o.logs)
	// Open writes nothing, also no earlier than a Sync; and what is added goes behind what was found.
	if l := diskImage(t, d); !slices.Equal(l, image) {
		t.Fatal("the disk has changed")
	}
	entries, proofs := len(b.All()), len(b.Proofs())
	e := sealed(len(sticks)-1, 0, 0, "one more")
	if got, want := b.Add(e), o.add(e); got != want || !slices.Equal(diskImage(t, d), o.disk.image()) {
		t.Fatal(got, want)
	}
	return entries, proofs, true
}

// imageOf returns the sectors of records with these payloads, and some with zeros behind them.
func imageOf(payloads ...string) []string {
	var l []string
	for _, s := range payloads {
		l = append(l, sectorsOf(s)...)
	}
	return append(l, slices.Repeat([]string{zeros}, 9)...)
}

// P8.5: which records are found.
func TestOpenRecords(t *testing.T) {
	sticks := sticksOf(4, 2, 1)
	begin := "\x01" + eight(plainSticksHash(sticks))
	log := logOf(0, "a", strings.Repeat("b", 300), "c", "d")
	entry := func(e api.Entry) string { return "\x02" + plainEncoding(e) }
	proof := func(a, b api.Entry) string { return "\x03" + plainEncoding(a) + plainEncoding(b) }
	ordered := func(a, b api.Entry) (api.Entry, api.Entry) {
		if plainEncoding(a) > plainEncoding(b) {
			return b, a
		}
		return a, b
	}
	a1, b1 := ordered(log[1], other(log[1], "x"))
	a2, b2 := ordered(log[2], other(log[2], "x"))
	x3, y3 := ordered(sealed(0, 3, 7, "far from the log"), sealed(0, 3, 8, "and this one"))
	same, twin := ordered(log[1], twin(log[1], log[1].Prev))
	bad := log[1]
	bad.Seal[3]++
	badA, badB := ordered(bad, b1)
	e0, e1, e2, e3 := entry(log[0]), entry(log[1]), entry(log[2]), entry(log[3])
	foreign := sealed(1, 0, 0, "foreign")
	for i, x := range []struct {
		payloads        []string
		entries, proofs int
	}{
		{[]string{}, 0, 0}, {[]string{e0, e1, e2, e3}, 4, 0}, {[]string{e0, entry(foreign), e1}, 3, 0},
		{[]string{begin, e0}, 0, 0}, {[]string{e0, begin, e1}, 1, 0},
		{[]string{e1, e0}, 0, 0}, {[]string{e0, e0, e1}, 1, 0}, {[]string{e0, e2}, 1, 0}, {[]string{e0, entry(sealed(0, 2, hashOf(log[0]), "wrong number")), e1}, 1, 0}, {[]string{e0, entry(sealed(0, 1, 0, "wrong Prev")), e1}, 1, 0},
		{[]string{e0, entry(bad), e1}, 1, 0}, {[]string{entry(sealed(1, 0, 1, "wrong Prev"))}, 0, 0}, {[]string{entry(sealed(3, 0, 0, "no parish"))}, 0, 0},
		{[]string{entry(foreign), entry(behind(foreign, "1")), entry(behind(behind(foreign, "1"), "no stick"))}, 2, 0},
		{[]string{e0, e1, e2, proof(a1, b1), entry(foreign)}, 2, 1}, {[]string{e0, e1, e2, proof(a2, b2), proof(a1, b1), entry(foreign)}, 2, 1},
		{[]string{e0, proof(a1, b1), e1}, 1, 1}, {[]string{proof(a2, b2), e0, e1, e2}, 2, 1}, {[]string{proof(x3, y3), e0, e1, e2, e3}, 3, 1},
		{[]string{e0, proof(a1, b1), proof(a2, b2), entry(foreign)}, 1, 1}, {[]string{e0, proof(a1, b1), proof(a1, b1), entry(foreign)}, 1, 1},
		{[]string{e0, proof(b1, a1)}, 1, 0}, {[]string{e0, proof(a1, a1)}, 1, 0}, {[]string{e0, proof(same, twin)}, 1, 0}, {[]string{e0, proof(badA, badB)}, 1, 0},
		{[]string{e0, proof(a1, b2)}, 1, 0}, {[]string{proof(log[0], sealed(1, 0, 0, "another parish"))}, 0, 0}, {[]string{proof(sealed(3, 0, 0, "a"), sealed(3, 0, 0, "b"))}, 0, 0},
		{[]string{e0 + "x", e1}, 0, 0}, {[]string{e0[:len(e0)-1], e1}, 0, 0}, {[]string{"\x03" + e0[1:], e0}, 0, 0}, {[]string{proof(a1, b1) + "x", e0}, 0, 0}, {[]string{proof(a1, b1)[:400], e0}, 0, 0},
		{[]string{"\x02", e0}, 0, 0}, {[]string{"\x03", e0}, 0, 0}, {[]string{"\x00" + e0[1:], e0}, 0, 0}, {[]string{"\x04" + e0[1:], e0}, 0, 0}, {[]string{"\x82" + e0[1:], e0}, 0, 0},
		{[]string{e0, strings.Repeat("\x02", 16383), e1}, 1, 0}, {[]string{"\x02\x08" + e0[2:], e0}, 0, 0}, {[]string{"\x02\x00\x40" + e0[3:], e0}, 0, 0},
	} {
		image := imageOf(append([]string{begin}, x.payloads...)...)
		entries, proofs, ok := openImage(t, sticks, image)
		if entries != x.entries || proofs != x.proofs || !ok {
			t.Error(i, entries, proofs, ok)
		}
		openImage(t, sticks, image[:len(image)-9])
		openImage(t, sticks, image[:max(1, len(image)-10)])
	}
	for _, first := range []string{"\x01", begin[:8], begin + "x", "\x02" + begin[1:], "\x01" + eight(plainSticksHash(sticks)+1), e0, proof(a1, b1), zeros} {
		if _, _, ok := openImage(t, sticks, imageOf(first, begin, e0)); ok {
			t.Errorf("%q", first)
		}
	}
}

// P8.5: the lengths, the last bytes and the filling of records.
func TestOpenSectors(t *testing.T) {
	sticks := sticksOf(2, 1)
	begin := "\x01" + eight(plainSticksHash(sticks))
	log := logOf(0, "a", "b")
	e0, e1 := "\x02"+plainEncoding(log[0]), "\x02"+plainEncoding(log[1])
	image := imageOf(begin, e0, e1)
	check := func(at, from int, s string, entries int, ok bool) {
		t.Helper()
		x := slices.Clone(image)
		x[at] = x[at][:from] + s + x[at][from+len(s):]
		if n, _, is := openImage(t, sticks, x); n != entries || is != ok {
			t.Errorf("%d %d %q %d %v", at, from, s, n, is)
		}
	}
	length := func(n uint32) string { return string(binary.LittleEndian.AppendUint32(nil, n)) }
	check(0, 13, strings.Repeat("filling", 7), 2, true)
	check(3, 20, strings.Repeat("f", 44), 2, true)
	for _, s := range []string{"\x00", "\x02", "\x81", "\xff"} {
		check(0, 63, s, 0, false)
		check(1, 63, s, 0, true)
		check(4, 63, s, 1, true)
	}
	check(2, 63, "\x00", 0, true)
	for _, n := range []uint32{0, 8, 10, 64, 16383, 16384, 1 << 16, 1 << 31, 9 + 1<<8, 9 + 1<<24, 1<<32 - 1} {
		check(0, 0, length(n), 0, false)
	}
	for _, n := range []uint32{0, 1, uint32(len(e0)) - 1, uint32(len(e0)) + 1, 16384, uint32(len(e0)) + 1<<16, 1<<32 - 1} {
		check(1, 0, length(n), 0, true)
		check(4, 0, length(n), 1, true)
	}
	for at := range len(image) {
		n, _, ok := openImage(t, sticks, image[:at+1])
		if want := max(0, min(2, at/3)); n != want || !ok {
			t.Error(at, n, ok)
		}
	}
}
