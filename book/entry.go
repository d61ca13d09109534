package book

import (
	"strings"

	"earmark/api"
)

const (
	// prefix is how many bytes the encoding of an entry has ahead of its body: Parish, No, Prev and the length of the body.
	prefix = 1 + 1 + numberSize + 2
	// suffix is how many it has behind it.
	suffix = api.SealBits * numberSize
)

// Encode returns the bytes of e.
func Encode(e api.Entry) (string, api.Errno) {
	if !isValid(e) {
		return "", api.ErrEntry
	}
	return encodingOf(e), api.OK
}

// Decode returns the entry at the beginning of s, and how many bytes it takes.
func Decode(s string) (api.Entry, int, api.Errno) {
	if len(s) < prefix {
		return api.Entry{}, 0, api.ErrEntry
	}
	body := prefix + int(numberOf(s[prefix-2:prefix]))
	end := body + suffix
	if len(s) < end {
		return api.Entry{}, 0, api.ErrEntry
	}
	e := api.Entry{
		Parish: int(s[0]),
		No:     int(s[1]),
		Prev:   numberOf(s[2 : 2+numberSize]),
		Body:   s[prefix:body],
	}
	for bit := range e.Seal {
		at := body + bit*numberSize
		e.Seal[bit] = numberOf(s[at : at+numberSize])
	}
	if !isValid(e) {
		return api.Entry{}, 0, api.ErrEntry
	}
	return e, end, api.OK
}

// core returns the bytes of a valid entry that its seal covers.
func core(e api.Entry) []byte {
	b := append(make([]byte, 0, prefix+len(e.Body)+suffix), byte(e.Parish), byte(e.No))
	b = appendNumber(b, e.Prev, numberSize)
	b = appendNumber(b, uint64(len(e.Body)), 2)
	return append(b, e.Body...)
}

// encodingOf returns the bytes of a valid entry.
func encodingOf(e api.Entry) string {
	b := core(e)
	for _, secret := range e.Seal {
		b = appendNumber(b, secret, numberSize)
	}
	return string(b)
}

// hashOf returns the hash of a valid entry.
func hashOf(e api.Entry) uint64 { return Hash(encodingOf(e)) }

// compare compares two valid entries by their encodings.
func compare(a, b api.Entry) int {
	return strings.Compare(encodingOf(a), encodingOf(b))
}

func isValid(e api.Entry) bool {
	return isParish(e.Parish) && isNumber(e.No) && len(e.Body) <= api.MaxBody
}

func isParish(n int) bool { return within(n, 0, api.MaxParishes-1) }

// isNumber reports whether n is an entry number.
func isNumber(n int) bool { return within(n, 0, api.MaxEntries-1) }

func within(n, least, most int) bool { return n >= least && n <= most }
