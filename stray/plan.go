package stray

import (
	"cmp"
	"iter"
	"slices"

	"earmark/api"
)

// plan gives some strays of a valid claim to flocks, at the least cost: as many wrong readings as its options have, and crowd for each stray that a flock gets more than it misses. That is permitted, so that there always is a plan; but no plan does it if it can be avoided.
type plan struct {
	claim api.Claim
	// given has for each stray of the plan the option by which it is given, and moves tells which of them may be given by other ones.
	given []api.Option
	moves []bool
	left  room
	cost  int
}

// planOf returns a plan for all strays of a valid claim.
func planOf(c api.Claim) *plan {
	p := &plan{
		claim: c,
		given: make([]api.Option, len(c.Strays)),
		moves: make([]bool, len(c.Strays)),
		left:  slices.Clone(c.Missing),
	}
	for h, options := range c.Strays {
		paths := p.pathsTo(p.left)
		p.put(h, cheapest(options, paths), paths)
	}
	return p
}

// planWithout returns a plan for all strays of a valid claim but one, and the paths to room in it.
func planWithout(c api.Claim, i int) (*plan, []path) {
	p := planOf(c)
	paths := p.take(i)
	return p, paths
}

// validPlan returns a plan that is a valid assignment of c; ErrClaim if c is not valid, ErrNone if there is none.
func validPlan(c api.Claim) (*plan, api.Errno) {
	if err := Check(c); err != api.OK {
		return nil, err
	}
	p := planOf(c)
	if !p.isValid() {
		return nil, api.ErrNone
	}
	return p, api.OK
}

// isValid reports whether the plan, if it has all strays, is a valid assignment. If it is not, there is none.
func (p *plan) isValid() bool { return p.cost <= p.claim.Wrong }

// isCrowded reports whether flocks get more strays than they miss. If they do, there is no assignment.
func (p *plan) isCrowded() bool { return p.cost >= crowd }

// permits reports whether the only stray that is not in the plan can be given by an option in a valid assignment, if these are the paths to room.
func (p *plan) permits(o api.Option, paths []path) bool {
	return p.cost+costOf(o, paths) <= p.claim.Wrong
}

// cheapest returns the option by which a stray comes into a plan at the least cost, if these are the paths to room.
func cheapest(options []api.Option, paths []path) api.Option {
	return slices.MinFunc(options, func(a, b api.Option) int {
		return cmp.Compare(costOf(a, paths), costOf(b, paths))
	})
}

// put adds a stray to the plan by an option, if these are the paths to room. The other strays make room for it at the least cost.
func (p *plan) put(h int, o api.Option, paths []path) {
	p.cost += costOf(o, paths)
	p.shift(paths[o.Flock].flocks)
	p.give(h, o)
	p.moves[h] = true
}

// take takes a stray, which may move, out of the plan, and returns the paths to room in what remains. Another stray takes its place, if that lowers the cost, and the flock at the beginning of the path has a stray less; or its own flock has.
func (p *plan) take(h int) []path {
	old := p.given[h]
	p.moves[h] = false
	paths := p.pathsTo(only(old.Flock))
	begin := old.Flock
	for flock := range paths {
		if paths[flock].cost-p.relief(flock) < paths[begin].cost-p.relief(begin) {
			begin = flock
		}
	}
	p.cost += paths[begin].cost - p.relief(begin) - old.Wrong
	p.left[old.Flock]++
	p.shift(paths[begin].flocks)
	return p.pathsTo(p.left)
}

// relief returns what is spared if a flock gets a stray less.
func (p *plan) relief(flock int) int {
	if p.left[flock] < 0 {
		return crowd
	}
	return 0
}

// shift moves a stray from each flock of a path to the next one.
func (p *plan) shift(flocks []int) {
	for at, from := range flocks[1:] {
		h, o := p.mover(from, flocks[at])
		p.left[from]++
		p.give(h, o)
	}
}

// mover returns the stray of a flock that moves to another one at the least cost, and the option by which it does. There must be one that can.
func (p *plan) mover(from, to int) (int, api.Option) {
	mover, by, least := 0, api.Option{}, never
	for h, given := range p.given {
		if !p.moves[h] || given.Flock != from {
			continue
		}
		if o, ok := optionOf(p.claim.Strays[h], to); ok && o.Wrong-given.Wrong < least {
			mover, by, least = h, o, o.Wrong-given.Wrong
		}
	}
	return mover, by
}

// give gives a stray to the flock of an option.
func (p *plan) give(h int, o api.Option) {
	p.given[h] = o
	p.left[o.Flock]--
}

// fix keeps a stray of the plan where it is from now on.
func (p *plan) fix(h int) { p.moves[h] = false }

// takeEach takes one stray after the other out of a plan in which all of them may move, yields it and the paths to room in what remains, and puts it back.
func (p *plan) takeEach() iter.Seq2[int, []path] {
	return func(yield func(int, []path) bool) {
		for h, options := range p.claim.Strays {
			paths := p.take(h)
			if !yield(h, paths) {
				return
			}
			p.put(h, cheapest(options, paths), paths)
		}
	}
}

// settle turns a plan that is a valid assignment into the least one that agrees with it about the strays that are fixed, and returns this.
func (p *plan) settle() []int {
	var a []int
	for h, options := range p.claim.Strays {
		if p.moves[h] {
			paths := p.take(h)
			first := slices.IndexFunc(options, func(o api.Option) bool { return p.permits(o, paths) })
			p.put(h, options[first], paths)
			p.fix(h)
		}
		a = append(a, p.given[h].Flock)
	}
	return a
}
