package stray

import (
	"cmp"
	"slices"

	"earmark/api"
)

// Shares returns how what the stray i brings is shared.
func Shares(c api.Claim, i int) ([]api.Share, api.Errno) {
	if err := checkStray(c, i); err != api.OK {
		return nil, err
	}
	x, err := prospectsOf(c)
	if err != api.OK {
		return nil, err
	}
	return x.shares(i), api.OK
}

// Pay returns what each flock gets, if the strays bring these prices.
func Pay(c api.Claim, prices []int) ([]int, api.Errno) {
	if err := cmp.Or(Check(c), inRange(len(prices) == len(c.Strays) && areWithin(prices, 0, api.MaxPrice))); err != api.OK {
		return nil, err
	}
	x, err := prospectsOf(c)
	if err != api.OK {
		return nil, err
	}
	paid := make([]int, len(c.Missing))
	for h, price := range prices {
		divide(price, x.shares(h), paid)
	}
	return paid, api.OK
}

// shares returns the shares of a stray, by increasing flock.
func (x prospects) shares(h int) []api.Share {
	flocks := x.flocks[h]
	if x.isForced(h) {
		return []api.Share{{Flock: flocks[0], Num: 1, Den: 1}}
	}
	sum := 0
	for _, flock := range flocks {
		sum += x.left[flock]
	}
	var l []api.Share
	for _, flock := range flocks {
		by := divisor(x.left[flock], sum)
		l = append(l, api.Share{Flock: flock, Num: x.left[flock] / by, Den: sum / by})
	}
	return l
}

// divisor returns the greatest common divisor of two numbers, not both of which are 0.
func divisor(a, b int) int {
	for b != 0 {
		a, b = b, a%b
	}
	return a
}

// divide adds to what each flock is paid its part of a price, of which nothing remains.
func divide(price int, shares []api.Share, paid []int) {
	rest := price
	for _, s := range shares {
		part := price * s.Num / s.Den
		paid[s.Flock] += part
		rest -= part
	}
	slices.SortStableFunc(shares, func(a, b api.Share) int {
		return cmp.Compare(cutOff(price, b)*a.Den, cutOff(price, a)*b.Den)
	})
	for _, s := range shares[:rest] {
		paid[s.Flock]++
	}
}

// cutOff returns the fraction that is cut off when a share of a price is rounded down, in parts of its Den.
func cutOff(price int, s api.Share) int { return price * s.Num % s.Den }
