package book

import (
	"slices"

	"earmark/api"
)

// checkSticks returns ErrStick unless there are sticks of some parishes, and some of each of them.
func checkSticks(sticks [][]api.Stick) api.Errno {
	bad := func(l []api.Stick) bool { return !within(len(l), 1, api.MaxEntries) }
	if !within(len(sticks), 1, api.MaxParishes) || slices.ContainsFunc(sticks, bad) {
		return api.ErrStick
	}
	return api.OK
}

// checkSealed returns ErrEntry unless e is valid and has one of these sticks; ErrSeal unless it fits this stick.
func checkSealed(sticks [][]api.Stick, e api.Entry) api.Errno {
	if !isValid(e) || e.Parish >= len(sticks) || e.No >= len(sticks[e.Parish]) {
		return api.ErrEntry
	}
	return Verify(sticks[e.Parish][e.No], e)
}

// copySticks returns the same sticks in memory of their own.
func copySticks(sticks [][]api.Stick) [][]api.Stick {
	l := make([][]api.Stick, len(sticks))
	for parish := range l {
		l[parish] = slices.Clone(sticks[parish])
	}
	return l
}

// hashSticks returns the hash of valid sticks.
func hashSticks(sticks [][]api.Stick) uint64 {
	var b []byte
	for _, l := range sticks {
		b = append(b, byte(len(l)))
		for _, s := range l {
			for _, images := range s.Images {
				b = appendNumber(b, images[0], numberSize)
				b = appendNumber(b, images[1], numberSize)
			}
		}
	}
	return Hash(string(b))
}
