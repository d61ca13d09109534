package book

import (
	"cmp"
	"slices"

	"earmark/api"
)

// CheckLog returns the error of the first entry of l that is not the next one of the log of a parish, and its index.
func CheckLog(sticks []api.Stick, parish int, l []api.Entry) (int, api.Errno) {
	switch {
	case !within(len(sticks), 1, api.MaxEntries):
		return 0, api.ErrStick
	case !isParish(parish):
		return 0, api.ErrArg
	}
	prev := uint64(0)
	for no, e := range l {
		if !isValid(e) || e.Parish != parish || e.No != no || no >= len(sticks) || e.Prev != prev {
			return no, api.ErrEntry
		}
		if err := Verify(sticks[no], e); err != api.OK {
			return no, err
		}
		prev = hashOf(e)
	}
	return 0, api.OK
}

// Convict returns the proof that a and b convict their parish, and whether they do.
func Convict(s api.Stick, a, b api.Entry) (api.Proof, bool, api.Errno) {
	if err := checkPair(s, a, b); err != api.OK || digestOf(a) == digestOf(b) {
		return api.Proof{}, false, err
	}
	if compare(a, b) > 0 {
		a, b = b, a
	}
	return api.Proof{A: a, B: b}, true, api.OK
}

// CheckProof returns ErrEntry or ErrSeal unless p convicts its parish.
func CheckProof(s api.Stick, p api.Proof) api.Errno {
	err := checkPair(s, p.A, p.B)
	if err != api.ErrEntry && (compare(p.A, p.B) >= 0 || digestOf(p.A) == digestOf(p.B)) {
		return api.ErrEntry
	}
	return err
}

// Court returns the entries that count of two collections, in order, and the proofs against convicted parishes.
func Court(sticks [][]api.Stick, a, b []api.Entry) ([]api.Entry, []api.Proof, api.Errno) {
	if err := checkSticks(sticks); err != api.OK {
		return nil, nil, err
	}
	c := newCollection(sticks)
	c.take(slices.Concat(a, b), func(record) api.Errno { return api.OK })
	return c.all(), c.proofs(), api.OK
}

// checkPair returns ErrEntry unless a and b are valid and have the same Parish and No; ErrSeal unless both fit s.
func checkPair(s api.Stick, a, b api.Entry) api.Errno {
	if !isValid(a) || !isValid(b) || a.Parish != b.Parish || a.No != b.No {
		return api.ErrEntry
	}
	return cmp.Or(Verify(s, a), Verify(s, b))
}
