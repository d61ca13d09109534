package knife

import (
	"earmark/api"
	"earmark/ear"
)

// Costs returns what can become of e within b, in order.
func Costs(e api.Ear, b api.Budget) ([]api.Cost, api.Errno) {
	if err := ear.Check(e); err != api.OK {
		return nil, err
	}
	if err := CheckBudget(b); err != api.OK {
		return nil, err
	}
	f := outcomes(e, b)
	var l []api.Cost
	for _, x := range f.sorted(ear.Compare) {
		fewest := never
		for steps, cuts := range f.costs[x] {
			if cuts < fewest {
				l = append(l, api.Cost{Ear: x, Weather: steps, Cuts: cuts})
				fewest = cuts
			}
		}
	}
	return l, api.OK
}

// costs tells how few changes lead to something: for each number of steps, the least number of cuts with which at most so many steps do; never, if none.
type costs [api.MaxChanges + 1]int

// never is more cuts than any budget has.
const never = api.MaxChanges + 1

func noCosts() costs {
	var c costs
	for steps := range c {
		c[steps] = never
	}
	return c
}

// and returns c with so many steps and cuts besides.
func (c costs) and(steps, cuts int) costs {
	for ; steps < len(c); steps++ {
		c[steps] = min(c[steps], cuts)
	}
	return c
}

// changes returns the least number of steps and cuts together.
func (c costs) changes() int {
	n := c[0]
	for steps, cuts := range c {
		n = min(n, steps+cuts)
	}
	return n
}

// fit reports whether what costs c and what costs d can both be done within b.
func fit(c, d costs, b api.Budget) bool {
	for steps := range b.Weather + 1 {
		if c[steps]+d[b.Weather-steps] <= b.Cuts {
			return true
		}
	}
	return false
}
