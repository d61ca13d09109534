package sheets

import (
	"slices"

	"earmark/api"
)

// Pairing returns a greatest set of pairs of a sheep of l and one of m that can be the same one.
func Pairing(l, m []api.Sighting, k int) ([][2]int, api.Errno) {
	p, err := mostPairs(l, m, k)
	if err != api.OK {
		return nil, err
	}
	return p.least(), api.OK
}

// Cover returns indices of l and of m such that each pair that can be the same sheep has one of them, as few as there are pairs in Pairing.
func Cover(l, m []api.Sighting, k int) ([]int, []int, api.Errno) {
	p, err := mostPairs(l, m, k)
	if err != api.OK {
		return nil, nil, err
	}
	reached := p.reached()
	var first, second []int
	for i, j := range p.ofL {
		switch {
		case j == none:
		case reached[j]:
			second = append(second, j)
		default:
			first = append(first, i)
		}
	}
	slices.Sort(second)
	return first, second, api.OK
}

// New returns the sheep of m that cannot all have been seen in l: how many of m are new at least.
func New(l, m []api.Sighting, k int) (int, api.Errno) {
	p, err := mostPairs(l, m, k)
	if err != api.OK {
		return 0, err
	}
	return len(m) - p.size, api.OK
}

// none stands for the partner of an index that is in no pair.
const none = -1

// pairs is a set of possible pairs of an index of l and one of m, in which each index occurs at most once. ofL and ofM tell the partners.
type pairs struct {
	possible [][]bool
	ofL, ofM [api.MaxHeads]int
	size     int
}

// mostPairs returns as many pairs as possible, or the error of Pairing.
func mostPairs(l, m []api.Sighting, k int) (pairs, api.Errno) {
	for _, x := range slices.Concat(l, m) {
		if err := checkSighting(x); err != api.OK {
			return pairs{}, err
		}
	}
	if err := checkLimit(k); err != api.OK {
		return pairs{}, err
	}
	if len(l) > api.MaxHeads || len(m) > api.MaxHeads {
		return pairs{}, api.ErrLimit
	}
	p := noPairs(l, m, k)
	for i := range l {
		p.extend(i, none, new([api.MaxHeads]bool))
	}
	return p, api.OK
}

// noPairs returns the set without pairs, with what is possible between two lists of acceptable sightings.
func noPairs(l, m []api.Sighting, k int) pairs {
	var p pairs
	for i := range api.MaxHeads {
		p.ofL[i], p.ofM[i] = none, none
	}
	for _, a := range l {
		row := make([]bool, len(m))
		for j, b := range m {
			row[j] = mayBe(a, b, k)
		}
		p.possible = append(p.possible, row)
	}
	return p
}

// extend gives a partner to i, which has none, and reports whether it could. Others may change theirs for it, but only those of l behind last, and none of m that has been tried.
func (p *pairs) extend(i, last int, tried *[api.MaxHeads]bool) bool {
	if !p.reach(i, last, tried) {
		return false
	}
	p.size++
	return true
}

// reach lets i take a partner that is free, or whose own partner takes another one.
func (p *pairs) reach(i, last int, tried *[api.MaxHeads]bool) bool {
	for j, possible := range p.possible[i] {
		if !possible || tried[j] {
			continue
		}
		tried[j] = true
		other := p.ofM[j]
		if other == none || other > last && p.reach(other, last, tried) {
			p.ofL[i], p.ofM[j] = j, i
			return true
		}
	}
	return false
}

// reached tells which indices of m can be reached from those of l without a partner, by way of possible pairs, and back by way of pairs of the set, which has as many as possible. All possible pairs of an index of l that is reached lead to those; so they and the indices of l that are not reached cover all possible pairs, and of each pair of the set they contain one index.
func (p *pairs) reached() [api.MaxHeads]bool {
	var tried [api.MaxHeads]bool
	for i := range p.possible {
		if p.ofL[i] == none {
			p.reach(i, none, &tried)
		}
	}
	return tried
}

// least returns the lexicographically least of all sets with as many pairs as p, which has as many as possible.
func (p pairs) least() [][2]int {
	var l [][2]int
	for i, row := range p.possible {
		for j := range row {
			if q, ok := p.with(i, j); ok {
				p = q
				l = append(l, [2]int{i, j})
				break
			}
		}
	}
	return l
}

// with returns a set with the pair (i, j) that has as many pairs as p, and the same ones ahead of i, and whether there is one.
func (p pairs) with(i, j int) (pairs, bool) {
	if p.ofL[i] == j {
		return p, true
	}
	other := p.ofM[j]
	if !p.possible[i][j] || other != none && other < i {
		return pairs{}, false
	}
	q := p
	q.part(i, p.ofL[i])
	q.part(other, j)
	q.ofL[i], q.ofM[j] = j, i
	q.size++
	var tried [api.MaxHeads]bool
	for x := i + 1; x < len(q.possible) && q.size < p.size; x++ {
		if q.ofL[x] == none {
			q.extend(x, i, &tried)
		}
	}
	return q, q.size == p.size
}

// part takes the pair (i, j) out of the set, unless one of them is none.
func (p *pairs) part(i, j int) {
	if i != none && j != none {
		p.ofL[i], p.ofM[j] = none, none
		p.size--
	}
}
