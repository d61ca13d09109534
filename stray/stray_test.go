package stray_test

import (
	"slices"
	"testing"

	"earmark/api"
	"earmark/stray"
)

// P7.1: the chapter's examples, the limits of each field, and claims beyond them.
func TestCheck(t *testing.T) {
	good := append(smallClaims(), wideClaim(), claimOf(0, []int{0}, []int{0, 0}), api.Claim{Missing: []int{}, Strays: [][]api.Option{}})
	for _, c := range good {
		if err := stray.Check(c); err != api.OK {
			t.Error(c, err)
		}
	}
	for _, c := range badClaims() {
		if err := stray.Check(c); err != api.ErrClaim {
			t.Error(c, err)
		}
	}
}

// P7.6: the claim without one of its strays, in memory of its own.
func TestWithout(t *testing.T) {
	for _, c := range smallClaims()[:300] {
		same := unchanged(t, c)
		for i := range c.Strays {
			d, err := stray.Without(c, i)
			want := copyOf(c)
			want.Strays = slices.Delete(want.Strays, i, i+1)
			if !sameClaim(d, want) || err != api.OK {
				t.Fatal(c, i, d, err)
			}
			for f := range d.Missing {
				d.Missing[f] = -7
			}
			for _, options := range d.Strays {
				options[0] = api.Option{Flock: -1}
			}
			same()
		}
	}
	checkStrayErrors(t, func(c api.Claim, i int) (bool, api.Errno) {
		d, err := stray.Without(c, i)
		return sameClaim(d, api.Claim{}), err
	})
}
