// Package ear describes the shapes of ears and marks. See shared/doc/01-ear.md.
package ear

import (
	"cmp"
	"slices"

	"earmark/api"
)

// Check returns ErrEar unless e is valid.
func Check(e api.Ear) api.Errno {
	if e.Tip < api.Whole || e.Tip > api.Cropped {
		return api.ErrEar
	}
	slots := slotsUnder(e.Tip)
	if e.Upper != soundEdge(e.Upper, slots) || e.Lower != soundEdge(e.Lower, slots) {
		return api.ErrEar
	}
	return api.OK
}

// CheckMark returns ErrEar unless both ears of m are valid.
func CheckMark(m api.Mark) api.Errno {
	if err := Check(m.Near); err != api.OK {
		return err
	}
	return Check(m.Far)
}

// slotsUnder returns how many slots of an edge can be cut beside a tip: a hollowed or cropped tip takes the last one away.
func slotsUnder(tip int) int {
	if tip == api.Hollowed || tip == api.Cropped {
		return api.Slots - 1
	}
	return api.Slots
}

// soundEdge returns edge with Uncut wherever a value cannot stand if only the first slots can be cut: a valid edge equals it, and no other one does.
func soundEdge(edge [api.Slots]int, slots int) [api.Slots]int {
	sound := edge
	for i, value := range edge {
		beside := i > 0 && edge[i-1] != api.Uncut
		if beside || i >= slots || value < api.Uncut || value > api.Key {
			sound[i] = api.Uncut
		}
	}
	return sound
}

// Compare returns -1, 0 or 1: how a and b are ordered.
func Compare(a, b api.Ear) int {
	if a.Tip != b.Tip {
		return cmp.Compare(a.Tip, b.Tip)
	}
	if a.Upper != b.Upper {
		return slices.Compare(a.Upper[:], b.Upper[:])
	}
	if a.Lower != b.Lower {
		return slices.Compare(a.Lower[:], b.Lower[:])
	}
	return cmp.Compare(holesCode(a.Holes), holesCode(b.Holes))
}

// CompareMarks returns -1, 0 or 1: how a and b are ordered.
func CompareMarks(a, b api.Mark) int {
	if c := Compare(a.Near, b.Near); c != 0 {
		return c
	}
	return Compare(a.Far, b.Far)
}

// Mirror returns e with its edges exchanged.
func Mirror(e api.Ear) api.Ear {
	e.Upper, e.Lower = e.Lower, e.Upper
	return e
}

// Swap returns m with its ears exchanged.
func Swap(m api.Mark) api.Mark {
	return api.Mark{Near: m.Far, Far: m.Near}
}
