package ear

import "earmark/api"

// edgeCounts[n] is how many valid edges have only their first n slots cut. Each is the one before it (the last slot is Uncut) and three times the one before that (it is cut, beside an Uncut one).
var edgeCounts = [api.Slots + 1]int{1, 4, 7, 19, 40}

// holeSets is how many sets of hole spots there are.
const holeSets = 1 << api.Spots

// Count returns how many valid ears there are.
func Count() int { return countBefore(api.Cropped + 1) }

// countBefore returns how many valid ears have a tip before this one.
func countBefore(tip int) int {
	n := 0
	for t := range tip {
		n += countOf(t)
	}
	return n
}

// countOf returns how many valid ears have this tip.
func countOf(tip int) int {
	edges := edgeCounts[slotsUnder(tip)]
	return edges * edges * holeSets
}

// Code returns the index of e among the valid ears, in their order.
func Code(e api.Ear) (int, api.Errno) {
	if err := Check(e); err != api.OK {
		return 0, err
	}
	slots := slotsUnder(e.Tip)
	edges := edgeCode(e.Upper, slots)*edgeCounts[slots] + edgeCode(e.Lower, slots)
	return countBefore(e.Tip) + edges*holeSets + holesCode(e.Holes), api.OK
}

// FromCode returns the valid ear with the index n.
func FromCode(n int) (api.Ear, api.Errno) {
	if n < 0 || n >= Count() {
		return api.Ear{}, api.ErrArg
	}
	tip := api.Whole
	for n >= countOf(tip) {
		n -= countOf(tip)
		tip++
	}
	slots := slotsUnder(tip)
	edges := n / holeSets
	return api.Ear{
		Tip:   tip,
		Upper: edgeFromCode(edges/edgeCounts[slots], slots),
		Lower: edgeFromCode(edges%edgeCounts[slots], slots),
		Holes: holesFromCode(n % holeSets),
	}, api.OK
}

// Next returns the valid ear that follows e, and whether there is one.
func Next(e api.Ear) (api.Ear, bool, api.Errno) {
	n, err := Code(e)
	if err != api.OK {
		return api.Ear{}, false, err
	}
	next, err := FromCode(n + 1)
	return next, err == api.OK, api.OK
}

// edgeCode returns the index of a valid edge among those that have only the first slots cut.
func edgeCode(edge [api.Slots]int, slots int) int {
	n := 0
	for i, value := range edge[:slots] {
		if value != api.Uncut {
			n += edgeCounts[slots-i-1] + (value-api.Notch)*edgesAfterCut(slots-i-1)
		}
	}
	return n
}

// edgeFromCode is the inverse of edgeCode.
func edgeFromCode(n, slots int) [api.Slots]int {
	var edge [api.Slots]int
	for i := range slots {
		if uncut := edgeCounts[slots-i-1]; n >= uncut {
			each := edgesAfterCut(slots - i - 1)
			edge[i] = api.Notch + (n-uncut)/each
			n = (n - uncut) % each
		}
	}
	return edge
}

// edgesAfterCut returns how many ways the slots after a cut can go on: the first of them has to be Uncut.
func edgesAfterCut(slots int) int {
	return edgeCounts[max(slots-1, 0)]
}

// holesCode numbers the sets of holes in their order.
func holesCode(holes [api.Spots]bool) int {
	n := 0
	for _, punched := range holes {
		n *= 2
		if punched {
			n++
		}
	}
	return n
}

// holesFromCode is the inverse of holesCode.
func holesFromCode(n int) [api.Spots]bool {
	var holes [api.Spots]bool
	for i := range holes {
		holes[i] = n>>(api.Spots-1-i)&1 == 1
	}
	return holes
}
