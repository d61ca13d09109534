package stray_test

import (
	"math/rand"
	"slices"
	"testing"

	"earmark/api"
	"earmark/stray"
)

// checkAssignment checks Wrong and Valid for a list that may be an assignment.
func checkAssignment(t *testing.T, c api.Claim, a []int) {
	t.Helper()
	kept := slices.Clone(a)
	wrong, is := wrongOf(c, a)
	want := api.OK
	if !is {
		want = api.ErrArg
	}
	if n, err := stray.Wrong(c, a); n != wrong && is || n != 0 && !is || err != want {
		t.Fatal(c, a, n, err)
	}
	if ok, err := stray.Valid(c, a); ok != isValid(c, a) || err != api.OK {
		t.Fatal(c, a, ok, err)
	}
	if !slices.Equal(a, kept) {
		t.Fatal("the assignment has changed", a, kept)
	}
}

// P7.1: assignments, and lists that are none.
func TestWrong(t *testing.T) {
	r := rand.New(rand.NewSource(73))
	for _, c := range smallClaims() {
		l := all(c)
		for range min(len(l), 5) {
			a := l[r.Intn(len(l))]
			checkAssignment(t, c, a)
			checkAssignment(t, c, append(slices.Clone(a), r.Intn(4)))
			if len(a) > 0 {
				checkAssignment(t, c, a[:len(a)-1])
				for _, flock := range []int{lowest, -1, r.Intn(4), len(c.Missing), 64, highest} {
					b := slices.Clone(a)
					b[r.Intn(len(b))] = flock
					checkAssignment(t, c, b)
				}
			}
		}
		checkAssignment(t, c, make([]int, len(c.Strays)))
		checkAssignment(t, c, nil)
	}
	for _, c := range badClaims() {
		for _, a := range [][]int{nil, {0, 0}, {0, 1}} {
			if n, err := stray.Wrong(c, a); n != 0 || err != api.ErrClaim {
				t.Error(c, a, n, err)
			}
			if ok, err := stray.Valid(c, a); ok || err != api.ErrClaim {
				t.Error(c, a, ok, err)
			}
		}
	}
}

// P7.1: a flock may get as many strays as it misses, and no more; and as many readings may be wrong as the claim has.
func TestWrongLimits(t *testing.T) {
	c := claimOf(4, []int{2, 1}, []int{0, 1, 1, 3}, []int{0, 2}, []int{0, 4, 1, 0})
	for _, x := range []struct {
		a     []int
		n     int
		err   api.Errno
		valid bool
	}{
		{[]int{0, 0, 1}, 3, api.OK, true},
		{[]int{1, 0, 0}, 9, api.OK, false},
		{[]int{0, 0, 0}, 0, api.ErrArg, false},
		{[]int{1, 0, 1}, 0, api.ErrArg, false},
		{[]int{0, 1, 1}, 0, api.ErrArg, false},
	} {
		if n, err := stray.Wrong(c, x.a); n != x.n || err != x.err {
			t.Error(x.a, n, err)
		}
		if ok, err := stray.Valid(c, x.a); ok != x.valid || err != api.OK {
			t.Error(x.a, ok, err)
		}
	}
	for wrong, want := range map[int]bool{2: false, 3: true} {
		c.Wrong = wrong
		if ok, err := stray.Valid(c, []int{0, 0, 1}); ok != want || err != api.OK {
			t.Error(wrong, ok, err)
		}
	}
}

// checkSearch checks Least, Assign, Possible and Witness for a claim.
func checkSearch(t *testing.T, c api.Claim, x answers) {
	t.Helper()
	same := unchanged(t, c)
	n, ok := fewest(c)
	if m, is, err := stray.Least(c); m != n || is != ok || err != api.OK {
		t.Fatal(c, m, is, err, n, ok)
	}
	if a, is, err := stray.Assign(c); !slices.Equal(a, x.assign) || is != x.is || err != api.OK {
		t.Fatal(c, a, is, err, x.assign)
	}
	for i := range c.Strays {
		for flock := range c.Missing {
			want, possible := x.witnesses[i][flock]
			if is, err := stray.Possible(c, i, flock); is != possible || err != api.OK {
				t.Fatal(c, i, flock, is, err)
			}
			if a, is, err := stray.Witness(c, i, flock); !slices.Equal(a, want) || is != possible || err != api.OK {
				t.Fatal(c, i, flock, a, is, err, want)
			}
		}
	}
	same()
}

// P7.3, P7.9: against all assignments of small claims.
func TestSearchOfFew(t *testing.T) {
	valid := 0
	for _, c := range smallClaims() {
		x := listed(c)
		if !sameAnswers(x, answersOf(c)) {
			t.Fatal("the tests disagree", c)
		}
		checkSearch(t, c, x)
		if x.is {
			valid++
		}
	}
	if valid < 300 {
		t.Error(valid)
	}
}

// P7.3, P7.9: of larger claims.
func TestSearchOfSome(t *testing.T) {
	for _, c := range someClaims() {
		checkSearch(t, c, answersOf(c))
	}
}

// P7.3: the chapter's examples.
func TestSearchExamples(t *testing.T) {
	two := claimOf(0, []int{1, 1}, []int{0, 0, 1, 0}, []int{0, 0, 1, 0})
	if n, ok, err := stray.Least(two); n != 0 || !ok || err != api.OK {
		t.Error(n, ok, err)
	}
	if a, ok, err := stray.Assign(two); !slices.Equal(a, []int{0, 1}) || !ok || err != api.OK {
		t.Error(a, ok, err)
	}
	if a, ok, err := stray.Witness(two, 0, 1); !slices.Equal(a, []int{1, 0}) || !ok || err != api.OK {
		t.Error(a, ok, err)
	}
	if a, ok, err := stray.Assign(api.Claim{}); len(a) != 0 || !ok || err != api.OK {
		t.Error(a, ok, err)
	}
	crowded := claimOf(0, []int{1}, []int{0, 0}, []int{0, 0})
	if n, ok, err := stray.Least(crowded); n != 0 || ok || err != api.OK {
		t.Error(n, ok, err)
	}
	// No valid claim has enough wrong readings for this one.
	c := claimOf(65536, []int{64}, slices.Repeat([][]int{{0, 65536}}, 64)...)
	if n, ok, err := stray.Least(c); n != 64*65536 || !ok || err != api.OK {
		t.Error(n, ok, err)
	}
	if a, ok, err := stray.Assign(c); len(a) != 0 || ok || err != api.OK {
		t.Error(a, ok, err)
	}
}

// P7.3: the errors.
func TestSearchErrors(t *testing.T) {
	for _, c := range badClaims() {
		if n, ok, err := stray.Least(c); n != 0 || ok || err != api.ErrClaim {
			t.Error(c, n, ok, err)
		}
		if a, ok, err := stray.Assign(c); len(a) != 0 || ok || err != api.ErrClaim {
			t.Error(c, a, ok, err)
		}
	}
	checkBothErrors(t, func(c api.Claim, i, flock int) (bool, api.Errno) {
		ok, err := stray.Possible(c, i, flock)
		return !ok, err
	})
	checkBothErrors(t, func(c api.Claim, i, flock int) (bool, api.Errno) {
		a, ok, err := stray.Witness(c, i, flock)
		return len(a) == 0 && !ok, err
	})
}

// P7.9: Least tells from which number of wrong readings on Assign finds something.
func TestLeastIsEnough(t *testing.T) {
	for _, c := range smallClaims() {
		n, ok, _ := stray.Least(c)
		for _, wrong := range []int{n - 1, n, n + 1, 65536} {
			if wrong < 0 || wrong > 65536 {
				continue
			}
			c.Wrong = wrong
			if _, is, err := stray.Assign(c); is != (ok && wrong >= n) || err != api.OK {
				t.Error(c, n, ok, is, err)
			}
		}
	}
}

// P7.13: more wrong readings, more missing sheep, fewer strays and more options leave possible what was.
func TestMoreRoom(t *testing.T) {
	r := rand.New(rand.NewSource(74))
	steps := 0
	for _, c := range smallClaims() {
		for i := range c.Strays {
			for flock := range c.Missing {
				if is, _ := stray.Possible(c, i, flock); !is {
					continue
				}
				steps++
				for _, d := range wider(r, c) {
					if is, err := stray.Possible(d, i, flock); !is || err != api.OK {
						t.Fatal(c, i, flock, d, is, err)
					}
				}
				for h := range c.Strays {
					d, _ := stray.Without(c, h)
					left := i
					if h < i {
						left--
					}
					if is, err := stray.Possible(d, left, flock); h != i && (!is || err != api.OK) {
						t.Fatal(c, i, flock, h, is, err)
					}
				}
			}
		}
	}
	if steps < 800 {
		t.Error(steps)
	}
}

// wider returns claims that leave more room than c.
func wider(r *rand.Rand, c api.Claim) []api.Claim {
	more, sheep, option, flock := copyOf(c), copyOf(c), copyOf(c), copyOf(c)
	more.Wrong = min(more.Wrong+1+r.Intn(3), 65536)
	sheep.Missing[r.Intn(len(sheep.Missing))]++
	for h, l := range option.Strays {
		for f := range option.Missing {
			if at, ok := slices.BinarySearchFunc(l, f, func(o api.Option, f int) int { return o.Flock - f }); !ok && r.Intn(2) == 0 {
				l = slices.Insert(l, at, api.Option{Flock: f, Wrong: r.Intn(3)})
			}
		}
		option.Strays[h] = l
	}
	flock.Missing = append(flock.Missing, 1)
	for h := range flock.Strays {
		flock.Strays[h] = append(flock.Strays[h], api.Option{Flock: len(c.Missing), Wrong: r.Intn(2)})
	}
	return []api.Claim{more, sheep, option, flock}
}
