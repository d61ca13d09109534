package stray_test

import (
	"math/rand"
	"slices"
	"testing"

	"earmark/api"
	"earmark/stray"
)

// largeClaims are claims with up to 64 strays and flocks, near the limit of what can be assigned.
func largeClaims() []api.Claim {
	r := rand.New(rand.NewSource(79))
	var l []api.Claim
	add := func(flocks, strays int, has func(h, f int) bool, missing func(f int) int, wrong func(h, f int) int) {
		var c api.Claim
		for f := range flocks {
			c.Missing = append(c.Missing, missing(f))
		}
		for h := range strays {
			var options []api.Option
			for f := range flocks {
				if has(h, f) {
					options = append(options, api.Option{Flock: f, Wrong: wrong(h, f)})
				}
			}
			c.Strays = append(c.Strays, options)
		}
		n, ok, _ := stray.Least(c)
		for _, more := range []int{-1, 0, 2} {
			c.Wrong = max(0, min(n+more, api.MaxWrong))
			l = append(l, copyOf(c))
			if !ok {
				break
			}
		}
	}
	always := func(h, f int) bool { return true }
	one := func(int) int { return 1 }
	thrown := func(n int) func(h, f int) int { return func(h, f int) int { return r.Intn(n) } }
	add(64, 64, always, one, thrown(1000))
	add(64, 64, always, one, thrown(2))
	add(64, 64, func(h, f int) bool { return h == f || r.Intn(8) == 0 }, one, thrown(900))
	add(64, 60, func(h, f int) bool { return r.Intn(20) == 0 || f == h }, one, thrown(1))
	add(8, 64, always, func(int) int { return 8 }, thrown(1000))
	// Each stray but the last one would move on: there is one place, and all of them are in a row.
	row := func(h, f int) bool { return f == h || f == h+1 }
	add(64, 63, row, one, func(h, f int) int { return (f - h) * 1000 })
	add(64, 64, func(h, f int) bool { return row(h, f) || f == 0 && h == 63 }, one, func(h, f int) int { return (h*f)%7*100 + 5 })
	add(63, 64, func(h, f int) bool { return f == h || f == h-1 }, one, thrown(5))
	add(64, 64, func(h, f int) bool { return f <= h }, one, func(h, f int) int { return h - f })
	add(64, 64, func(h, f int) bool { return f >= h }, one, func(h, f int) int { return 65536 })
	// There are too few places for half of the strays.
	add(64, 64, func(h, f int) bool { return h%2 == 0 && f < 31 || h%2 == 1 && f >= 31 }, one, thrown(3))
	return append(l, wideClaim())
}

// P7.3, P7.4, P7.8, P7.9: of large claims each option has a witness or a reason, and there is a reason against each earlier option than the one that Assign takes.
func TestLarge(t *testing.T) {
	for n, c := range largeClaims() {
		l, err := stray.Decide(c)
		least, is, _ := stray.Least(c)
		if want := is && least <= c.Wrong; want != (err == api.OK) {
			t.Fatal(n, least, is, err)
		}
		if err != api.OK {
			checkHopeless(t, c, is)
			continue
		}
		for i, v := range l {
			at := 0
			for _, o := range c.Strays[i] {
				if !slices.Contains(v.Flocks, o.Flock) {
					if !isReason(c, i, o.Flock, v.Reasons[at]) {
						t.Fatal(n, i, o)
					}
					at++
				}
			}
			if i%16 != n%16 {
				continue
			}
			if ok, err := stray.CheckVerdict(c, i, v, witnessesOf(t, c, i, v.Flocks)); !ok || err != api.OK {
				t.Fatal(n, i, ok, err)
			}
		}
		checkFirst(t, c, n%8)
	}
}

// checkHopeless checks a claim without a valid assignment.
func checkHopeless(t *testing.T, c api.Claim, is bool) {
	t.Helper()
	strays, flocks, found, err := stray.Tight(c)
	if found == is || err != api.OK || found && !isTight(c, strays, flocks) {
		t.Fatal(c, strays, flocks, found, err)
	}
	for _, i := range []int{0, len(c.Strays) / 2, len(c.Strays) - 1} {
		for flock := range c.Missing {
			checkReason(t, c, i, flock, false)
		}
	}
}

// checkFirst checks that Assign returns a valid assignment, and that there is none before it that differs first at one of some strays.
func checkFirst(t *testing.T, c api.Claim, some int) {
	t.Helper()
	a, ok, err := stray.Assign(c)
	if !ok || err != api.OK || !isValid(c, a) {
		t.Fatal(c, a, ok, err)
	}
	for h, flock := range a {
		for _, o := range c.Strays[h] {
			if o.Flock == flock || h%8 != some {
				break
			}
			x, ok, _ := stray.Reason(c, h, o.Flock)
			if !ok || !isReason(c, h, o.Flock, x) {
				t.Fatal(c, a, h, o.Flock)
			}
		}
		c = restricted(c, h, flock)
	}
}

// P7.6, P7.12: what flocks get from many strays is all that these bring.
func TestLargePay(t *testing.T) {
	r := rand.New(rand.NewSource(80))
	for n, c := range largeClaims() {
		prices := make([]int, len(c.Strays))
		sum := 0
		for h := range prices {
			prices[h] = r.Intn(1<<30 + 1)
			sum += prices[h]
		}
		paid, err := stray.Pay(c, prices)
		for _, p := range paid {
			sum -= p
		}
		if _, is, _ := stray.Assign(c); is && (err != api.OK || sum != 0) || !is && err != api.ErrNone {
			t.Error(n, sum, err)
		}
	}
}
