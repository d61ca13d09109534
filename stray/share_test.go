package stray_test

import (
	"math/big"
	"math/rand"
	"slices"
	"testing"

	"earmark/api"
	"earmark/stray"
)

// checkShares checks Shares for a claim with a valid assignment.
func checkShares(t *testing.T, c api.Claim, x answers) {
	t.Helper()
	same := unchanged(t, c)
	for h := range c.Strays {
		l, err := stray.Shares(c, h)
		if err != api.OK || len(l) != len(x.flocks[h]) {
			t.Fatal(c, h, l, err)
		}
		sum := new(big.Rat)
		for k, s := range l {
			part := x.part(h, s.Flock)
			if s.Flock != x.flocks[h][k] || !part.Num().IsInt64() || int64(s.Num) != part.Num().Int64() || int64(s.Den) != part.Denom().Int64() {
				t.Fatal(c, h, s, part)
			}
			sum.Add(sum, big.NewRat(int64(s.Num), int64(s.Den)))
		}
		if sum.Cmp(big.NewRat(1, 1)) != 0 {
			t.Fatal(c, h, l, "add up to", sum)
		}
	}
	same()
}

// somePrices returns a price for each stray.
func somePrices(r *rand.Rand, c api.Claim) []int {
	most := []int{3, 20, 1000, 1 << 30}[r.Intn(4)]
	prices := make([]int, len(c.Strays))
	for h := range prices {
		prices[h] = r.Intn(most + 1)
		if r.Intn(5) == 0 {
			prices[h] = most
		}
	}
	return prices
}

// checkPay checks Pay for a claim with a valid assignment.
func checkPay(t *testing.T, c api.Claim, x answers, prices []int) {
	t.Helper()
	same, kept := unchanged(t, c), slices.Clone(prices)
	paid, err := stray.Pay(c, prices)
	if !slices.Equal(paid, x.pay(prices)) || err != api.OK {
		t.Fatal(c, prices, paid, err, x.pay(prices))
	}
	total := 0
	for h, price := range prices {
		total += price
		// What one stray alone brings.
		single := make([]int, len(prices))
		single[h] = price
		part, _ := stray.Pay(c, single)
		for f, got := range part {
			exact := new(big.Rat).Mul(x.part(h, f), big.NewRat(int64(price), 1))
			over := exact.Sub(exact, big.NewRat(int64(got), 1))
			if over.Abs(over).Cmp(big.NewRat(1, 1)) >= 0 || got > 0 && !slices.Contains(x.flocks[h], f) {
				t.Fatal(c, single, part)
			}
		}
	}
	for _, n := range paid {
		total -= n
	}
	if total != 0 {
		t.Fatal(c, prices, paid, "differ by", total)
	}
	if !slices.Equal(prices, kept) {
		t.Fatal("the prices have changed")
	}
	same()
}

// P7.6, P7.12: shares and pay, against fractions.
func TestShares(t *testing.T) {
	r := rand.New(rand.NewSource(77))
	shared := 0
	for _, c := range append(smallClaims(), someClaims()...) {
		x := answersOf(c)
		if !x.is {
			continue
		}
		checkShares(t, c, x)
		for range 3 {
			checkPay(t, c, x, somePrices(r, c))
		}
		for _, l := range x.flocks {
			if len(l) > 2 {
				shared++
			}
		}
	}
	if shared < 200 {
		t.Error(shared)
	}
}

// P7.6: the chapter's examples, and the order in which what remains is given out.
func TestPay(t *testing.T) {
	for _, x := range []struct {
		missing []int
		price   int
		shares  []api.Share
		want    []int
	}{
		{[]int{1, 2}, 10, []api.Share{{Flock: 0, Num: 1, Den: 3}, {Flock: 1, Num: 2, Den: 3}}, []int{3, 7}},
		{[]int{1, 3}, 10, []api.Share{{Flock: 0, Num: 1, Den: 4}, {Flock: 1, Num: 3, Den: 4}}, []int{3, 7}},
		{[]int{3, 1}, 10, []api.Share{{Flock: 0, Num: 3, Den: 4}, {Flock: 1, Num: 1, Den: 4}}, []int{8, 2}},
		{[]int{2, 2}, 1, []api.Share{{Flock: 0, Num: 1, Den: 2}, {Flock: 1, Num: 1, Den: 2}}, []int{1, 0}},
		{[]int{1, 0, 4}, 4, []api.Share{{Flock: 0, Num: 1, Den: 5}, {Flock: 2, Num: 4, Den: 5}}, []int{1, 0, 3}},
		{[]int{1, 1, 1}, 5, []api.Share{{Flock: 0, Num: 1, Den: 3}, {Flock: 1, Num: 1, Den: 3}, {Flock: 2, Num: 1, Den: 3}}, []int{2, 2, 1}},
		// The fractions that are cut off are 1/2, 1/3 and 1/6, and then 1/6, 1/3 and 1/2, of the sixth parts.
		{[]int{3, 2, 1}, 1, []api.Share{{Flock: 0, Num: 1, Den: 2}, {Flock: 1, Num: 1, Den: 3}, {Flock: 2, Num: 1, Den: 6}}, []int{1, 0, 0}},
		{[]int{1, 2, 3}, 1, []api.Share{{Flock: 0, Num: 1, Den: 6}, {Flock: 1, Num: 1, Den: 3}, {Flock: 2, Num: 1, Den: 2}}, []int{0, 0, 1}},
		// 5/6, 5/3 and 5/2: 2 are left, for 5/6 and 2/3.
		{[]int{1, 2, 3}, 5, []api.Share{{Flock: 0, Num: 1, Den: 6}, {Flock: 1, Num: 1, Den: 3}, {Flock: 2, Num: 1, Den: 2}}, []int{1, 2, 2}},
		{[]int{0, 7, 0}, 9, []api.Share{{Flock: 1, Num: 1, Den: 1}}, []int{0, 9, 0}},
		{[]int{64, 63}, 1 << 30, []api.Share{{Flock: 0, Num: 64, Den: 127}, {Flock: 1, Num: 63, Den: 127}}, []int{541098242, 532643582}},
		{[]int{5, 5}, 0, []api.Share{{Flock: 0, Num: 1, Den: 2}, {Flock: 1, Num: 1, Den: 2}}, []int{0, 0}},
	} {
		var options []int
		for f := range x.missing {
			options = append(options, f, 0)
		}
		c := claimOf(0, x.missing, options)
		if l, err := stray.Shares(c, 0); !slices.Equal(l, x.shares) || err != api.OK {
			t.Error(x.missing, l, err)
		}
		if l, err := stray.Pay(c, []int{x.price}); !slices.Equal(l, x.want) || err != api.OK {
			t.Error(x.missing, x.price, l, err)
		}
	}
	if l, err := stray.Pay(api.Claim{Missing: []int{3, 4}}, nil); !slices.Equal(l, []int{0, 0}) || err != api.OK {
		t.Error(l, err)
	}
}

// P7.6: a forced stray's flock gets all, and strays of the same flocks share what is left of them.
func TestSharesAfterForced(t *testing.T) {
	c := claimOf(0, []int{3, 2}, []int{0, 0}, []int{0, 0, 1, 0}, []int{0, 0}, []int{0, 0, 1, 0})
	for h, want := range [][]api.Share{
		{{Flock: 0, Num: 1, Den: 1}},
		{{Flock: 0, Num: 1, Den: 3}, {Flock: 1, Num: 2, Den: 3}},
		{{Flock: 0, Num: 1, Den: 1}},
		{{Flock: 0, Num: 1, Den: 3}, {Flock: 1, Num: 2, Den: 3}},
	} {
		if l, err := stray.Shares(c, h); !slices.Equal(l, want) || err != api.OK {
			t.Error(h, l, err)
		}
	}
	if l, err := stray.Pay(c, []int{100, 10, 20, 11}); !slices.Equal(l, []int{127, 14}) || err != api.OK {
		t.Error(l, err)
	}
}

// P7.6: the errors, in their order.
func TestShareErrors(t *testing.T) {
	checkStrayErrors(t, func(c api.Claim, i int) (bool, api.Errno) {
		l, err := stray.Shares(c, i)
		return len(l) == 0, err
	})
	checkNone(t, func(c api.Claim) (bool, api.Errno) {
		l, err := stray.Shares(c, 0)
		return len(l) == 0, err
	})
	checkNone(t, func(c api.Claim) (bool, api.Errno) {
		l, err := stray.Pay(c, make([]int, len(c.Strays)))
		return len(l) == 0, err
	})
	for _, c := range []api.Claim{claimOf(0, []int{2}, []int{0, 0}, []int{0, 0}), claimOf(0, []int{1}, []int{0, 0}, []int{0, 0})} {
		for _, prices := range [][]int{nil, {1}, {1, 2, 3}, {-1, 1}, {1, -1}, {1<<30 + 1, 0}, {0, 1<<30 + 1}, {lowest, 0}, {0, highest}} {
			if l, err := stray.Pay(c, prices); len(l) != 0 || err != api.ErrArg {
				t.Error(c, prices, l, err)
			}
		}
	}
	for _, c := range badClaims() {
		if l, err := stray.Pay(c, []int{-1}); len(l) != 0 || err != api.ErrClaim {
			t.Error(c, l, err)
		}
	}
}
