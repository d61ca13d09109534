package stray

import (
	"slices"

	"earmark/api"
)

// Forced returns the strays that every valid assignment gives to the same flock, in increasing order, and these flocks.
func Forced(c api.Claim) ([]int, []int, api.Errno) {
	x, err := prospectsOf(c)
	if err != api.OK {
		return nil, nil, err
	}
	var strays, flocks []int
	for h := range x.flocks {
		if x.isForced(h) {
			strays, flocks = append(strays, h), append(flocks, x.flocks[h][0])
		}
	}
	return strays, flocks, api.OK
}

// Tight returns strays and flocks that prove that there is no assignment at all, and whether that is so: all options of the strays are among the flocks, which miss fewer sheep.
func Tight(c api.Claim) ([]int, []int, bool, api.Errno) {
	if err := Check(c); err != api.OK {
		return nil, nil, false, err
	}
	p := planOf(c)
	if !p.isCrowded() {
		return nil, nil, false, api.OK
	}
	// The crowded flocks are full, all those to which their strays could move, and so on. The strays of all these flocks have no options elsewhere.
	full := make([]bool, len(c.Missing))
	var strays, flocks []int
	for flock, rest := range p.pathsTo(p.left) {
		if rest.isCrowding() {
			full[flock] = true
			flocks = append(flocks, flock)
		}
	}
	for h, o := range p.given {
		if full[o.Flock] {
			strays = append(strays, h)
		}
	}
	return strays, flocks, true, api.OK
}

// Left returns how many sheep each flock still misses at the most after the forced strays.
func Left(c api.Claim) ([]int, api.Errno) {
	x, err := prospectsOf(c)
	if err != api.OK {
		return nil, err
	}
	return x.left, api.OK
}

// prospects is what all valid assignments of a claim have in common: the possible flocks of each stray, and how many sheep each flock misses besides the forced strays.
type prospects struct {
	flocks [][]int
	left   []int
}

// prospectsOf returns the prospects of c, or the error of validPlan.
func prospectsOf(c api.Claim) (prospects, api.Errno) {
	p, err := validPlan(c)
	if err != api.OK {
		return prospects{}, err
	}
	x := prospects{make([][]int, len(c.Strays)), slices.Clone(c.Missing)}
	for h, paths := range p.takeEach() {
		for _, o := range c.Strays[h] {
			if p.permits(o, paths) {
				x.flocks[h] = append(x.flocks[h], o.Flock)
			}
		}
		if x.isForced(h) {
			x.left[x.flocks[h][0]]--
		}
	}
	return x, api.OK
}

func (x prospects) isForced(h int) bool { return len(x.flocks[h]) == 1 }
