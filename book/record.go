package book

import (
	"strings"

	"earmark/api"
)

// The kinds of records, which are the first bytes of their payloads.
const (
	beginRecord = iota + 1
	entryRecord
	proofRecord
)

const (
	// lengthSize is how many bytes the length of a payload takes.
	lengthSize = 4
	// signAt is where the first sector of a record has its last byte, the sign that there is one.
	signAt = api.SectorSize - 1
	// sign is this byte.
	sign = 1
	// maxPayload is the greatest length that is read.
	maxPayload = 16383
)

// record is what a book writes to its disk: the beginning, with the hash of the sticks; an entry; or a proof.
type record struct {
	kind   int
	sticks uint64
	entry  api.Entry
	proof  api.Proof
}

// payload returns the bytes of a record.
func (r record) payload() string {
	kind := string([]byte{byte(r.kind)})
	switch r.kind {
	case beginRecord:
		return kind + string(appendNumber(nil, r.sticks, numberSize))
	case entryRecord:
		return kind + encodingOf(r.entry)
	}
	return kind + encodingOf(r.proof.A) + encodingOf(r.proof.B)
}

// parseRecord returns the record with a payload, which is not empty, and whether there is one.
func parseRecord(payload string) (record, bool) {
	r := record{kind: int(payload[0])}
	rest := payload[1:]
	switch r.kind {
	case beginRecord:
		if len(rest) != numberSize {
			return record{}, false
		}
		r.sticks = numberOf(rest)
		return r, true
	case entryRecord:
		e, n, err := Decode(rest)
		r.entry = e
		return r, err == api.OK && n == len(rest)
	case proofRecord:
		a, n, err := Decode(rest)
		if err != api.OK {
			return record{}, false
		}
		b, m, err := Decode(rest[n:])
		r.proof = api.Proof{A: a, B: b}
		return r, err == api.OK && n+m == len(rest)
	}
	return record{}, false
}

// sectorsFor returns how many sectors a record takes whose payload has n bytes.
func sectorsFor(n int) int { return 1 + (n+lengthSize)/api.SectorSize }

// layOut returns the sectors of a record with a payload.
func layOut(payload string) []string {
	l := make([]string, sectorsFor(len(payload)))
	var first sector
	copy(first[:], appendNumber(nil, uint64(len(payload)), lengthSize))
	n := copy(first[lengthSize:signAt], payload)
	first[signAt] = sign
	l[0] = string(first[:])
	for i := 1; i < len(l); i++ {
		var s sector
		n += copy(s[:], payload[n:])
		l[i] = string(s[:])
	}
	return l
}

// writeRecord writes a record at a sector, where the sequence of records ends. Its first sector comes last, when all others are safe, and the zeros behind them end the sequence anew: until then there is nothing to be found.
func writeRecord(d *Disk, at int, payload string) api.Errno {
	l := layOut(payload)
	end := at + len(l)
	if end > d.Sectors() {
		return api.ErrFull
	}
	first, others := l[0], l[1:]
	if end < d.Sectors() {
		others = append(others, string(make([]byte, api.SectorSize)))
	}
	for i, s := range others {
		if err := d.Write(at+1+i, s); err != api.OK {
			return err
		}
	}
	if err := d.Sync(); err != api.OK {
		return err
	}
	if err := d.Write(at, first); err != api.OK {
		return err
	}
	return d.Sync()
}

// readPayload returns the payload of the record at a sector of a disk whose power is on, and whether one of a permitted length is there.
func readPayload(d *Disk, at int) (string, bool) {
	first, err := d.Read(at)
	if err != api.OK || first[signAt] != sign {
		return "", false
	}
	length := numberOf(first[:lengthSize])
	if length < 1 || length > maxPayload {
		return "", false
	}
	n := int(length)
	end := at + sectorsFor(n)
	if end > d.Sectors() {
		return "", false
	}
	var b strings.Builder
	b.WriteString(first[lengthSize:signAt])
	for at++; at < end; at++ {
		s, _ := d.Read(at)
		b.WriteString(s)
	}
	return b.String()[:n], true
}

// readRecord returns the record at a sector, the sector behind it, and whether there is one.
func readRecord(d *Disk, at int) (record, int, bool) {
	payload, ok := readPayload(d, at)
	if !ok {
		return record{}, 0, false
	}
	r, ok := parseRecord(payload)
	return r, at + sectorsFor(len(payload)), ok
}
