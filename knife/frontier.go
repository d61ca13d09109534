package knife

import (
	"iter"
	"maps"
	"slices"

	"earmark/api"
	"earmark/weather"
)

// frontier is what a search has found so far: the costs of each find, and, for each number of steps and cuts, the finds to which so many lead, but not fewer of one and no more of the other. From these the search goes on.
type frontier[T comparable] struct {
	costs map[T]costs
	finds map[api.Budget][]T
}

// add adds x as something to which so many steps and cuts lead, unless fewer are known to do.
func (f *frontier[T]) add(x T, steps, cuts int) {
	c, ok := f.costs[x]
	if !ok {
		c = noCosts()
	}
	if c[steps] <= cuts {
		return
	}
	f.costs[x] = c.and(steps, cuts)
	at := api.Budget{Weather: steps, Cuts: cuts}
	f.finds[at] = append(f.finds[at], x)
}

// sorted returns all finds in order.
func (f *frontier[T]) sorted(compare func(a, b T) int) []T {
	return slices.SortedFunc(maps.Keys(f.costs), compare)
}

// search tells how a search goes on: what single steps and what single cuts make of something, and whether something that so many changes have made is worth keeping.
type search[T comparable] struct {
	steps, cuts func(T) iter.Seq[T]
	worth       func(x T, changes int) bool
}

// within returns what steps and cuts within b make of start.
func (s search[T]) within(start T, b api.Budget) *frontier[T] {
	f := &frontier[T]{costs: map[T]costs{}, finds: map[api.Budget][]T{}}
	f.add(start, 0, 0)
	for steps := range b.Weather + 1 {
		for cuts := range b.Cuts + 1 {
			for _, x := range f.finds[api.Budget{Weather: steps - 1, Cuts: cuts}] {
				s.keep(f, s.steps(x), steps, cuts)
			}
			for _, x := range f.finds[api.Budget{Weather: steps, Cuts: cuts - 1}] {
				s.keep(f, s.cuts(x), steps, cuts)
			}
		}
	}
	return f
}

// keep adds to f what is worth it of what so many steps and cuts have made.
func (s search[T]) keep(f *frontier[T], made iter.Seq[T], steps, cuts int) {
	for x := range made {
		if s.worth(x, steps+cuts) {
			f.add(x, steps, cuts)
		}
	}
}

// always finds everything worth keeping.
func always[T any](T, int) bool { return true }

// outcomes returns what can become of a valid ear within b.
func outcomes(e api.Ear, b api.Budget) *frontier[api.Ear] {
	return earSearch(always).within(e, b)
}

// earSearch is a search among ears.
func earSearch(worth func(api.Ear, int) bool) search[api.Ear] {
	return search[api.Ear]{steps: weathered, cuts: cutOut, worth: worth}
}

// weathered yields what single steps make of a valid ear.
func weathered(e api.Ear) iter.Seq[api.Ear] {
	l, _ := weather.Next(e)
	return slices.Values(l)
}

// cutOut yields what single cuts make of a valid ear.
func cutOut(e api.Ear) iter.Seq[api.Ear] {
	return func(yield func(api.Ear) bool) {
		for _, made := range successors(e) {
			if !yield(made) {
				return
			}
		}
	}
}
