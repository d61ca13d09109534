package stray_test

import (
	"slices"
	"testing"

	"earmark/api"
	"earmark/stray"
)

// checkForced checks Forced, Left and the verdicts' flocks for a claim.
func checkForced(t *testing.T, c api.Claim, x answers) {
	t.Helper()
	same := unchanged(t, c)
	var strays, flocks []int
	for h, l := range x.flocks {
		if len(l) == 1 {
			strays, flocks = append(strays, h), append(flocks, l[0])
		}
	}
	want, left := api.OK, x.left
	if !x.is {
		want, left, strays, flocks = api.ErrNone, nil, nil, nil
	}
	if a, b, err := stray.Forced(c); !slices.Equal(a, strays) || !slices.Equal(b, flocks) || err != want {
		t.Fatal(c, a, b, err, strays, flocks)
	}
	l, err := stray.Left(c)
	if !slices.Equal(l, left) || err != want {
		t.Fatal(c, l, err, left)
	}
	for f := range l {
		l[f] = -9
	}
	same()
}

// P7.5, P7.10: forced strays, and what they leave.
func TestForced(t *testing.T) {
	for _, c := range smallClaims() {
		checkForced(t, c, listed(c))
	}
	for _, c := range someClaims() {
		checkForced(t, c, answersOf(c))
	}
	c := claimOf(0, []int{1, 1}, []int{0, 0}, []int{0, 0, 1, 0})
	if a, b, err := stray.Forced(c); !slices.Equal(a, []int{0, 1}) || !slices.Equal(b, []int{0, 1}) || err != api.OK {
		t.Error(a, b, err)
	}
	if l, err := stray.Left(c); !slices.Equal(l, []int{0, 0}) || err != api.OK {
		t.Error(l, err)
	}
	checkNone(t, func(c api.Claim) (bool, api.Errno) {
		a, b, err := stray.Forced(c)
		return len(a) == 0 && len(b) == 0, err
	})
	checkNone(t, func(c api.Claim) (bool, api.Errno) {
		l, err := stray.Left(c)
		return len(l) == 0, err
	})
}

// isTight reports whether strays and flocks show that there is no assignment.
func isTight(c api.Claim, strays, flocks []int) bool {
	if !isIncreasing(strays, len(c.Strays)) || !isIncreasing(flocks, len(c.Missing)) {
		return false
	}
	sum := 0
	for _, f := range flocks {
		sum += c.Missing[f]
	}
	for _, h := range strays {
		for _, o := range c.Strays[h] {
			if !slices.Contains(flocks, o.Flock) {
				return false
			}
		}
	}
	return len(strays) > sum
}

// isIncreasing reports whether l is strictly increasing, from numbers below n.
func isIncreasing(l []int, n int) bool {
	last := -1
	for _, x := range l {
		if x <= last || x >= n {
			return false
		}
		last = x
	}
	return true
}

// P7.5, P7.11: tight sets are found exactly if there is no assignment, however many readings may be wrong.
func TestTight(t *testing.T) {
	tight := 0
	for _, c := range append(smallClaims(), someClaims()...) {
		same := unchanged(t, c)
		_, is := fewest(c)
		strays, flocks, found, err := stray.Tight(c)
		if found == is || err != api.OK {
			t.Fatal(c, strays, flocks, found, err)
		}
		if !found && (len(strays) > 0 || len(flocks) > 0) || found && !isTight(c, strays, flocks) {
			t.Fatal(c, strays, flocks)
		}
		if found {
			tight++
		}
		same()
	}
	if tight < 500 {
		t.Error(tight)
	}
	strays, flocks, found, err := stray.Tight(claimOf(0, []int{1}, []int{0, 0}, []int{0, 0}))
	if !slices.Equal(strays, []int{0, 1}) || !slices.Equal(flocks, []int{0}) || !found || err != api.OK {
		t.Error(strays, flocks, found, err)
	}
	for _, c := range badClaims() {
		if strays, flocks, found, err := stray.Tight(c); len(strays) > 0 || len(flocks) > 0 || found || err != api.ErrClaim {
			t.Error(c, strays, flocks, found, err)
		}
	}
}
