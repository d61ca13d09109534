package fell

import (
	"slices"

	"earmark/api"
)

// Lanes returns as many lanes from a to b as possible that have no gate in common, each as a list of gates.
func Lanes(f api.Fell, a, b int) ([][]int, api.Errno) {
	if err := checkEnds(f, a, b); err != api.OK {
		return nil, err
	}
	t, n := mostLanes(f, a, b)
	var l [][]int
	for range n {
		l = append(l, t.takeLane(f, a, b))
	}
	return l, api.OK
}

// Shut returns the least set of gates without which b is not in the fold of a.
func Shut(f api.Fell, a, b int) ([]int, api.Errno) {
	if err := checkEnds(f, a, b); err != api.OK {
		return nil, err
	}
	_, n := mostLanes(f, a, b)
	var l []int
	// A gate is in a set with the fewest gates exactly if there is one lane fewer without it. So taking each such gate in turn leads to the first of these sets.
	for i := range f.Gates {
		more := append(slices.Clip(l), i)
		if _, left := mostLanes(without(f, more), a, b); left == n-len(more) {
			l = more
		}
	}
	return l, api.OK
}

// checkEnds returns the first error of a fell and two different grazings of it.
func checkEnds(f api.Fell, a, b int) api.Errno {
	if err := checkAll(f, []int{a, b}); err != api.OK {
		return err
	}
	if a == b {
		return api.ErrArg
	}
	return api.OK
}

// traffic tells for each gate how lanes lead through it: 1 from A to B, -1 from B to A, 0 not at all.
type traffic [api.MaxGates]int

// mostLanes returns the traffic of as many lanes from a to b as possible, and how many they are.
func mostLanes(f api.Fell, a, b int) (traffic, int) {
	var t traffic
	n := 0
	for t.addLane(f, a, b) {
		n++
	}
	return t, n
}

// addLane changes the traffic so that it has one lane more from a to b, and reports whether that was possible.
func (t *traffic) addLane(f api.Fell, a, b int) bool {
	var by [api.MaxGrazings]int
	seen := only(a)
	queue := []int{a}
search:
	for len(queue) > 0 {
		x := queue[0]
		queue = queue[1:]
		for i, g := range f.Gates {
			y, way := across(g, x)
			// Going against a lane is possible, too: the two then exchange what follows, and neither uses the gate.
			if way == 0 || !usable(g) || t[i] == way || seen.has(y) {
				continue
			}
			seen |= only(y)
			by[y] = i
			queue = append(queue, y)
			if y == b {
				break search
			}
		}
	}
	if !seen.has(b) {
		return false
	}
	for y := b; y != a; {
		i := by[y]
		x, way := across(f.Gates[i], y)
		t[i] -= way
		y = x
	}
	return true
}

// takeLane takes a lane from a to b out of the traffic, which must have one, and returns it.
func (t *traffic) takeLane(f api.Fell, a, b int) []int {
	var l []int
	for x := a; x != b; {
		i := t.onward(f, x)
		l = append(l, i)
		t[i] = 0
		x, _ = across(f.Gates[i], x)
	}
	return l
}

// onward returns a gate through which a lane leads on from x. There must be one.
func (t *traffic) onward(f api.Fell, x int) int {
	gate := 0
	for i, g := range f.Gates {
		if _, way := across(g, x); way != 0 && t[i] == way {
			gate = i
		}
	}
	return gate
}
