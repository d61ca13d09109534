package stray_test

import (
	"fmt"
	"maps"
	"math/big"
	"math/rand"
	"slices"
	"strings"
	"testing"

	"earmark/api"
	"earmark/stray"
)

// The tests compare the package with a plain reading of the chapter: all assignments of small claims are listed, and for larger ones the fewest wrong readings are found by how many strays each flock can have got from the first strays. Reasons and verdicts are checked by conditions of their own.

const (
	lowest  = -1 << 63
	highest = 1<<63 - 1
)

// claimOf returns a claim; of each stray the options are listed as flock, wrong readings, flock, wrong readings, and so on.
func claimOf(wrong int, missing []int, strays ...[]int) api.Claim {
	c := api.Claim{Missing: missing, Wrong: wrong}
	for _, l := range strays {
		var options []api.Option
		for i := 0; i < len(l); i += 2 {
			options = append(options, api.Option{Flock: l[i], Wrong: l[i+1]})
		}
		c.Strays = append(c.Strays, options)
	}
	return c
}

func copyOf(c api.Claim) api.Claim {
	d := api.Claim{Missing: slices.Clone(c.Missing), Wrong: c.Wrong}
	for _, l := range c.Strays {
		d.Strays = append(d.Strays, slices.Clone(l))
	}
	return d
}

func sameClaim(c, d api.Claim) bool {
	return c.Wrong == d.Wrong && slices.Equal(c.Missing, d.Missing) && slices.EqualFunc(c.Strays, d.Strays, slices.Equal[[]api.Option])
}

// restricted returns c with one option only of the stray i: that of a flock, which it has.
func restricted(c api.Claim, i, flock int) api.Claim {
	c.Strays = slices.Clone(c.Strays)
	c.Strays[i] = slices.DeleteFunc(slices.Clone(c.Strays[i]), func(o api.Option) bool { return o.Flock != flock })
	return c
}

// wrongOf returns how many readings are wrong with a, and whether it is an assignment.
func wrongOf(c api.Claim, a []int) (int, bool) {
	if len(a) != len(c.Strays) {
		return 0, false
	}
	wrong, got := 0, map[int]int{}
	for h, flock := range a {
		at := slices.IndexFunc(c.Strays[h], func(o api.Option) bool { return o.Flock == flock })
		if at < 0 {
			return 0, false
		}
		wrong += c.Strays[h][at].Wrong
		got[flock]++
	}
	for flock, n := range got {
		if n > c.Missing[flock] {
			return 0, false
		}
	}
	return wrong, true
}

func isValid(c api.Claim, a []int) bool {
	n, ok := wrongOf(c, a)
	return ok && n <= c.Wrong
}

// all returns all assignments of c, in their order.
func all(c api.Claim) [][]int {
	l := [][]int{{}}
	for _, options := range c.Strays {
		var longer [][]int
		for _, a := range l {
			for _, o := range options {
				longer = append(longer, append(slices.Clone(a), o.Flock))
			}
		}
		l = longer
	}
	return slices.DeleteFunc(l, func(a []int) bool { _, ok := wrongOf(c, a); return !ok })
}

// fewest returns the least number of wrong readings of an assignment, and whether there is one.
func fewest(c api.Claim) (int, bool) {
	best := map[[api.MaxFlocks]uint8]int{{}: 0}
	for _, options := range c.Strays {
		next := map[[api.MaxFlocks]uint8]int{}
		for got, wrong := range best {
			for _, o := range options {
				if int(got[o.Flock]) == c.Missing[o.Flock] {
					continue
				}
				more := got
				more[o.Flock]++
				if old, ok := next[more]; !ok || wrong+o.Wrong < old {
					next[more] = wrong + o.Wrong
				}
			}
		}
		best = next
	}
	if len(best) == 0 {
		return 0, false
	}
	return slices.Min(slices.Collect(maps.Values(best))), true
}

func hasValid(c api.Claim) bool {
	n, ok := fewest(c)
	return ok && n <= c.Wrong
}

// first returns the least valid assignment of c, and whether there is one.
func first(c api.Claim) ([]int, bool) {
	if !hasValid(c) {
		return nil, false
	}
	var a []int
	for h, options := range c.Strays {
		for _, o := range options {
			if d := restricted(c, h, o.Flock); hasValid(d) {
				a = append(a, o.Flock)
				c = d
				break
			}
		}
	}
	return a, true
}

// answers is what the chapter says of a claim.
type answers struct {
	assign    []int
	is        bool
	witnesses []map[int][]int // of each stray by flock
	flocks    [][]int         // the possible ones of each stray
	left      []int
}

func answersOf(c api.Claim) answers {
	x := answers{left: slices.Clone(c.Missing)}
	x.assign, x.is = first(c)
	for h, options := range c.Strays {
		witnesses := map[int][]int{}
		for _, o := range options {
			if a, ok := first(restricted(c, h, o.Flock)); ok {
				witnesses[o.Flock] = a
			}
		}
		x.witnesses = append(x.witnesses, witnesses)
		x.flocks = append(x.flocks, slices.Sorted(maps.Keys(witnesses)))
		if l := x.flocks[h]; len(l) == 1 {
			x.left[l[0]]--
		}
	}
	return x
}

// listed returns what answersOf returns, by the list of all assignments.
func listed(c api.Claim) answers {
	l := slices.DeleteFunc(all(c), func(a []int) bool { return !isValid(c, a) })
	x := answers{left: slices.Clone(c.Missing), is: len(l) > 0}
	if x.is {
		x.assign = l[0]
	}
	for h := range c.Strays {
		witnesses := map[int][]int{}
		for _, a := range l {
			if witnesses[a[h]] == nil {
				witnesses[a[h]] = a
			}
		}
		x.witnesses = append(x.witnesses, witnesses)
		x.flocks = append(x.flocks, slices.Sorted(maps.Keys(witnesses)))
		if l := x.flocks[h]; len(l) == 1 {
			x.left[l[0]]--
		}
	}
	return x
}

func sameAnswers(x, y answers) bool {
	return x.is == y.is && slices.Equal(x.assign, y.assign) && slices.Equal(x.left, y.left) &&
		slices.EqualFunc(x.flocks, y.flocks, slices.Equal[[]int]) &&
		slices.EqualFunc(x.witnesses, y.witnesses, func(a, b map[int][]int) bool { return maps.EqualFunc(a, b, slices.Equal[[]int]) })
}

// part returns the share of a stray that a flock has.
func (x answers) part(h, flock int) *big.Rat {
	l := x.flocks[h]
	if !slices.Contains(l, flock) {
		return new(big.Rat)
	}
	if len(l) == 1 {
		return big.NewRat(1, 1)
	}
	sum := 0
	for _, f := range l {
		sum += x.left[f]
	}
	return big.NewRat(int64(x.left[flock]), int64(sum))
}

// pay returns what the flocks get if the strays bring these prices.
func (x answers) pay(prices []int) []int {
	paid := make([]int, len(x.left))
	for h, price := range prices {
		rest := price
		cut := map[int]*big.Rat{}
		for _, flock := range x.flocks[h] {
			exact := new(big.Rat).Mul(x.part(h, flock), big.NewRat(int64(price), 1))
			whole := int(new(big.Int).Div(exact.Num(), exact.Denom()).Int64())
			cut[flock] = exact.Sub(exact, big.NewRat(int64(whole), 1))
			paid[flock] += whole
			rest -= whole
		}
		for ; rest > 0; rest-- {
			lucky := -1
			for _, flock := range x.flocks[h] {
				if cut[flock] != nil && (lucky < 0 || cut[flock].Cmp(cut[lucky]) > 0) {
					lucky = flock
				}
			}
			paid[lucky]++
			cut[lucky] = nil
		}
	}
	return paid
}

// isReason reports whether x is a reason against giving the stray i of c to the flock.
func isReason(c api.Claim, i, flock int, x api.Reason) bool {
	if len(x.Strays) != len(c.Strays) || len(x.Flocks) != len(c.Missing) {
		return false
	}
	sum := new(big.Int)
	for _, u := range x.Strays {
		if u < -1073741824 || u > 1073741824 {
			return false
		}
		sum.Add(sum, big.NewInt(int64(u)))
	}
	for g, y := range x.Flocks {
		if y < 0 || y > 1073741824 {
			return false
		}
		sum.Sub(sum, new(big.Int).Mul(big.NewInt(int64(y)), big.NewInt(int64(c.Missing[g]))))
	}
	for h, options := range c.Strays {
		if h == i {
			options = slices.DeleteFunc(slices.Clone(options), func(o api.Option) bool { return o.Flock != flock })
		}
		for _, o := range options {
			if x.Strays[h]-x.Flocks[o.Flock] > o.Wrong {
				return false
			}
		}
	}
	return sum.Cmp(big.NewInt(int64(c.Wrong))) > 0
}

// textOf returns the text of a claim.
func textOf(c api.Claim) string {
	var b strings.Builder
	fmt.Fprintf(&b, "claim %d\n", c.Wrong)
	for _, n := range c.Missing {
		fmt.Fprintf(&b, "flock %d\n", n)
	}
	for _, options := range c.Strays {
		b.WriteString("stray")
		for _, o := range options {
			fmt.Fprintf(&b, " %d %d", o.Flock, o.Wrong)
		}
		b.WriteString("\n")
	}
	return b.String()
}

// sizes tells how large random claims are at the most.
type sizes struct {
	flocks, strays, missing, wrong int
}

// randomClaim returns a valid claim with at least one flock.
func randomClaim(r *rand.Rand, s sizes) api.Claim {
	c := api.Claim{Missing: make([]int, (s.flocks+2)/2+r.Intn(s.flocks/2+1))}
	for f := range c.Missing {
		c.Missing[f] = r.Intn(s.missing + 1)
	}
	density := 1 + r.Intn(4)
	for range r.Intn(s.strays + 1) {
		var options []api.Option
		for f := range c.Missing {
			if r.Intn(4) < density {
				options = append(options, api.Option{Flock: f, Wrong: r.Intn(s.wrong + 1)})
			}
		}
		if len(options) == 0 {
			options = []api.Option{{Flock: r.Intn(len(c.Missing)), Wrong: r.Intn(s.wrong + 1)}}
		}
		c.Strays = append(c.Strays, options)
	}
	c.Wrong = r.Intn(min(s.wrong*(len(c.Strays)+1), api.MaxWrong) + 1)
	if n, ok := fewest(c); ok && n <= api.MaxWrong && r.Intn(4) > 0 {
		c.Wrong = max(0, min(n+r.Intn(s.wrong/(1+r.Intn(4))+3)-1, api.MaxWrong))
	}
	return c
}

// smallClaims returns claims of which all assignments can be listed, the smallest ones first.
func smallClaims() []api.Claim {
	r := rand.New(rand.NewSource(71))
	l := []api.Claim{
		{}, {Wrong: 9}, {Missing: []int{0, 64}},
		claimOf(0, []int{1}, []int{0, 1}),
		claimOf(1, []int{1}, []int{0, 1}),
		claimOf(0, []int{1}, []int{0, 0}, []int{0, 0}),
		claimOf(0, []int{1, 1}, []int{0, 0, 1, 0}, []int{0, 0, 1, 0}),
		claimOf(0, []int{1, 1}, []int{0, 0}, []int{0, 0, 1, 0}),
		claimOf(0, []int{1, 0}, []int{0, 0, 1, 0}, []int{0, 0, 1, 0}),
		claimOf(0, []int{1, 3, 0}, []int{0, 0, 1, 0}),
		claimOf(1, []int{2, 0}, []int{0, 0, 1, 1}),
		claimOf(65536, []int{1, 1}, []int{0, 65536, 1, 65535}, []int{0, 0, 1, 1}),
		claimOf(65536, []int{1, 1}, []int{0, 65536, 1, 65535}, []int{0, 1, 1, 2}),
		// The first stray alone would go to the flock 0; with the other ones the cheapest way is a chain of moves.
		claimOf(10, []int{1, 1, 1}, []int{0, 0, 1, 5}, []int{0, 0, 2, 7}, []int{0, 1, 1, 1, 2, 9}),
		claimOf(5, []int{1, 1, 1}, []int{0, 0, 2, 10}, []int{0, 0, 1, 5}),
	}
	for n := range 1500 {
		l = append(l, randomClaim(r, sizes{r.Intn(6), 6, 1 + r.Intn(5), []int{0, 1, 3, 65536}[n%4]}))
	}
	return l
}

// someClaims returns claims with too many assignments to list.
func someClaims() []api.Claim {
	r := rand.New(rand.NewSource(72))
	var l []api.Claim
	for n := range 100 {
		l = append(l, randomClaim(r, sizes{3 + r.Intn(3), 14, 4 + r.Intn(3), []int{0, 1, 9, 65536}[n%4]}))
	}
	for n := range 100 {
		l = append(l, randomClaim(r, sizes{10, 9, 1 + n%2, []int{1, 2, 9, 65536}[n%4]}))
	}
	return l
}

// wideClaim returns a claim with as many flocks, strays and options as there may be, and the greatest numbers.
func wideClaim() api.Claim {
	c := api.Claim{Missing: slices.Repeat([]int{64}, 64), Wrong: 65536}
	for range 64 {
		var options []api.Option
		for f := range 64 {
			options = append(options, api.Option{Flock: f, Wrong: 65536})
		}
		c.Strays = append(c.Strays, options)
	}
	return c
}

// badClaims are claims that are not valid.
func badClaims() []api.Claim {
	good := claimOf(3, []int{2, 0, 64}, []int{0, 1, 2, 65536}, []int{1, 0})
	var l []api.Claim
	bad := func(change func(c *api.Claim, n int), numbers ...int) {
		for _, n := range numbers {
			c := copyOf(good)
			change(&c, n)
			l = append(l, c)
		}
	}
	bad(func(c *api.Claim, n int) { c.Wrong = n }, lowest, -1, 65537, highest)
	bad(func(c *api.Claim, n int) { c.Missing[0] = n }, lowest, -1, 65, highest)
	bad(func(c *api.Claim, n int) { c.Missing[2] = n }, lowest, -1, 65, highest)
	bad(func(c *api.Claim, n int) { c.Missing = make([]int, n) }, 0, 2, 65, 1000)
	bad(func(c *api.Claim, n int) { c.Strays = slices.Repeat(c.Strays[:1], n) }, 65, 1000)
	bad(func(c *api.Claim, n int) { c.Strays[n] = nil }, 0, 1)
	bad(func(c *api.Claim, n int) { c.Strays[n] = []api.Option{} }, 0, 1)
	bad(func(c *api.Claim, n int) { c.Strays[0][0].Wrong = n }, lowest, -1, 65537, highest)
	bad(func(c *api.Claim, n int) { c.Strays[0][1].Wrong = n }, lowest, -1, 65537, highest)
	bad(func(c *api.Claim, n int) { c.Strays[0][0].Flock = n }, lowest, -1, 2, 3, highest)
	bad(func(c *api.Claim, n int) { c.Strays[0][1].Flock = n }, lowest, -1, 0, 3, 64, highest)
	bad(func(c *api.Claim, n int) { c.Strays[1][0].Flock = n }, lowest, -1, 3, highest)
	return append(l, api.Claim{Strays: [][]api.Option{{}}}, claimOf(0, nil, []int{0, 0}))
}

// unchanged returns a function that checks that c is as it was.
func unchanged(t *testing.T, c api.Claim) func() {
	d := copyOf(c)
	return func() {
		t.Helper()
		if !sameClaim(c, d) {
			t.Error("the claim has changed", c, d)
		}
	}
}

// checkStrayErrors checks that a function that asks about a stray returns errors in their order, and zero results besides, as which it reports them.
func checkStrayErrors(t *testing.T, call func(c api.Claim, i int) (bool, api.Errno)) {
	t.Helper()
	for _, c := range badClaims() {
		for _, i := range []int{-1, 0, 1, 2} {
			if zero, err := call(c, i); !zero || err != api.ErrClaim {
				t.Error(c, i, zero, err)
			}
		}
	}
	// The third claim has no valid assignment.
	for _, c := range []api.Claim{{}, claimOf(0, []int{2}, []int{0, 0}, []int{0, 0}), claimOf(0, []int{1}, []int{0, 0}, []int{0, 0})} {
		for _, i := range []int{lowest, -1, len(c.Strays), highest} {
			if zero, err := call(c, i); !zero || err != api.ErrArg {
				t.Error(c, i, zero, err)
			}
		}
	}
}

// checkBothErrors checks the same of a function that asks about a stray and a flock.
func checkBothErrors(t *testing.T, call func(c api.Claim, i, flock int) (bool, api.Errno)) {
	t.Helper()
	for _, flock := range []int{-1, 0} {
		checkStrayErrors(t, func(c api.Claim, i int) (bool, api.Errno) { return call(c, i, flock) })
	}
	for _, c := range []api.Claim{claimOf(0, []int{2, 2}, []int{0, 0}, []int{1, 0}), claimOf(0, []int{1, 0}, []int{0, 0}, []int{0, 0})} {
		for _, flock := range []int{lowest, -1, 2, 64, highest} {
			if zero, err := call(c, 1, flock); !zero || err != api.ErrArg {
				t.Error(c, flock, zero, err)
			}
		}
	}
}

// checkNone checks that a function returns ErrClaim for claims that are not valid, and ErrNone for those without a valid assignment, as which it reports whether the other results are zero.
func checkNone(t *testing.T, call func(c api.Claim) (bool, api.Errno)) {
	t.Helper()
	for _, c := range badClaims() {
		if zero, err := call(c); !zero || err != api.ErrClaim {
			t.Error(c, zero, err)
		}
	}
	none := 0
	for _, c := range smallClaims()[:600] {
		if !hasValid(c) && len(c.Strays) > 0 {
			none++
			if zero, err := call(c); !zero || err != api.ErrNone {
				t.Error(c, zero, err)
			}
		}
	}
	if none < 50 {
		t.Error(none)
	}
}

// witnessesOf returns what Witness returns for flocks and the stray i.
func witnessesOf(t *testing.T, c api.Claim, i int, flocks []int) [][]int {
	t.Helper()
	var l [][]int
	for _, flock := range flocks {
		a, ok, err := stray.Witness(c, i, flock)
		if !ok || err != api.OK {
			t.Error(c, i, flock, ok, err)
		}
		l = append(l, a)
	}
	return l
}
