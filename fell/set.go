package fell

import (
	"math/bits"

	"earmark/api"
)

// set is a set of grazings: it has a bit for each of the MaxGrazings.
type set uint16

func only(a int) set { return 1 << a }

func (s set) has(a int) bool { return s&only(a) != 0 }

// least returns the least grazing of a set that is not empty.
func (s set) least() int { return bits.TrailingZeros16(uint16(s)) }

func (s set) list() []int {
	var l []int
	for a := range api.MaxGrazings {
		if s.has(a) {
			l = append(l, a)
		}
	}
	return l
}

// leads reports whether g leads out of s, or into it.
func (s set) leads(g api.Gate) bool { return s.has(g.A) != s.has(g.B) }

// spread returns where sheep can be that are in s and may pass the gates that serve.
func spread(f api.Fell, s set, serves func(api.Gate) bool) set {
search:
	for {
		for _, g := range f.Gates {
			if s.leads(g) && serves(g) {
				s |= only(g.A) | only(g.B)
				continue search
			}
		}
		return s
	}
}

// split returns the sets of grazings that are connected by the gates that serve.
func split(f api.Fell, serves func(api.Gate) bool) [][]int {
	var l [][]int
	var done set
	for a := range f.Grazings {
		if !done.has(a) {
			s := spread(f, only(a), serves)
			done |= s
			l = append(l, s.list())
		}
	}
	return l
}
