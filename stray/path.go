package stray

import "earmark/api"

const (
	// crowd is what it costs in a plan if a flock gets a stray more than it misses: much more than all the wrong readings that an assignment can have.
	crowd = 4 * api.MaxHeads * api.MaxWrong
	// never is what it costs if a path ends where it may not: more than any plan.
	never = 2 * api.MaxHeads * crowd
)

// target is what a path of options may end in.
type target interface {
	// price returns what it costs that a path ends in a flock.
	price(flock int) int
}

// room lets a path end in any flock, but for nothing only in one that misses more strays. It tells how many each flock still misses; below 0 if it gets too many.
type room []int

func (r room) price(flock int) int {
	if r[flock] > 0 {
		return 0
	}
	return crowd
}

// only lets a path end in one flock alone.
type only int

func (x only) price(flock int) int {
	if flock == int(x) {
		return 0
	}
	return never
}

// path leads from a flock to a target: from each flock on it but the last one a stray moves to the next one, by another of its options. The flocks are listed from the last one to the first one. The cost is how many readings more are wrong then (or fewer, if it is below 0), and the price of the end.
type path struct {
	flocks []int
	cost   int
}

// pathsTo returns for each flock the cheapest path from it to a target. No path back to the same flock costs less than nothing, since the plan would not have the least cost then; so paths cannot become shorter without end.
func (p *plan) pathsTo(t target) []path {
	paths := make([]path, len(p.left))
	for flock := range paths {
		paths[flock] = path{[]int{flock}, t.price(flock)}
	}
	for p.shorten(paths) {
	}
	return paths
}

// shorten lets the path from the flock of each stray that may move begin with another of its options, where this is cheaper, and reports whether it did so anywhere. A list of flocks is extended behind its end, which another path may extend, too: they share no memory.
func (p *plan) shorten(paths []path) bool {
	shortened := false
	for h, given := range p.given {
		if !p.moves[h] {
			continue
		}
		for _, o := range p.claim.Strays[h] {
			rest := paths[o.Flock]
			if cost := o.Wrong - given.Wrong + rest.cost; cost < paths[given.Flock].cost {
				end := len(rest.flocks)
				paths[given.Flock] = path{append(rest.flocks[:end:end], given.Flock), cost}
				shortened = true
			}
		}
	}
	return shortened
}

// isCrowding reports whether a path to room ends in a flock that is full already. The readings on its way that are wrong then, or no longer wrong, are much fewer than half of what that costs.
func (q path) isCrowding() bool { return q.cost > crowd/2 }

// costOf returns what it costs to give a stray to a flock by an option, if these are the paths from the flocks.
func costOf(o api.Option, paths []path) int { return o.Wrong + paths[o.Flock].cost }
