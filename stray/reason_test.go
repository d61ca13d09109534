package stray_test

import (
	"math/rand"
	"slices"
	"testing"

	"earmark/api"
	"earmark/stray"
)

func isNoReason(x api.Reason) bool { return len(x.Strays) == 0 && len(x.Flocks) == 0 }

// checkReason checks Reason and CheckReason for a stray and a flock, and returns what Reason does.
func checkReason(t *testing.T, c api.Claim, i, flock int, possible bool) api.Reason {
	t.Helper()
	x, ok, err := stray.Reason(c, i, flock)
	if ok == possible || err != api.OK {
		t.Fatal(c, i, flock, ok, err, possible)
	}
	if possible {
		if !isNoReason(x) {
			t.Fatal(c, i, flock, x)
		}
		return x
	}
	if err := stray.CheckReason(c, i, flock, x); err != api.OK || !isReason(c, i, flock, x) {
		t.Fatal(c, i, flock, x, err)
	}
	return x
}

// P7.4, P7.8: for each stray and flock there is a witness or a reason.
func TestReason(t *testing.T) {
	reasons := 0
	for _, c := range append(smallClaims(), someClaims()...) {
		x := answersOf(c)
		same := unchanged(t, c)
		for i := range c.Strays {
			for flock := range c.Missing {
				_, possible := x.witnesses[i][flock]
				checkReason(t, c, i, flock, possible)
				if !possible {
					reasons++
				}
			}
		}
		same()
	}
	if reasons < 5000 {
		t.Error(reasons)
	}
}

// guess returns prices that may be a reason: any ones, or some near those of a reason against another stray or flock.
func guess(r *rand.Rand, c api.Claim, known []api.Reason) api.Reason {
	if len(known) > 0 && r.Intn(3) > 0 {
		y := known[r.Intn(len(known))]
		x := api.Reason{Strays: slices.Clone(y.Strays), Flocks: slices.Clone(y.Flocks)}
		for range r.Intn(3) {
			x.Strays[r.Intn(len(x.Strays))] += r.Intn(7) - 3
			x.Flocks[r.Intn(len(x.Flocks))] += r.Intn(7) - 3
		}
		return x
	}
	x := api.Reason{Strays: make([]int, len(c.Strays)), Flocks: make([]int, len(c.Missing))}
	scale := 1 + r.Intn(9)*r.Intn(9)
	for h := range x.Strays {
		x.Strays[h] = r.Intn(3*scale) - scale
	}
	for g := range x.Flocks {
		x.Flocks[g] = r.Intn(2 * scale)
	}
	return x
}

// P7.4, P7.8: CheckReason accepts what is a reason, and nothing against what a valid assignment does.
func TestCheckReason(t *testing.T) {
	r := rand.New(rand.NewSource(75))
	accepted, refused := 0, 0
	for _, c := range smallClaims() {
		if len(c.Strays) == 0 {
			continue
		}
		x := listed(c)
		var known []api.Reason
		for i := range c.Strays {
			for flock := range c.Missing {
				if y, ok, _ := stray.Reason(c, i, flock); ok {
					known = append(known, y)
				}
			}
		}
		for range 40 {
			y := guess(r, c, known)
			i, flock := r.Intn(len(c.Strays)), r.Intn(len(c.Missing))
			want := api.ErrReason
			if isReason(c, i, flock, y) {
				want = api.OK
				accepted++
			} else {
				refused++
			}
			if err := stray.CheckReason(c, i, flock, y); err != want {
				t.Fatal(c, i, flock, y, err, want)
			}
			if slices.Contains(x.flocks[i], flock) && want == api.OK {
				t.Fatal("a reason against what is possible", c, i, flock, y)
			}
		}
	}
	if accepted < 3000 || refused < 3000 {
		t.Error(accepted, refused)
	}
}

// reasonCase is a call of CheckReason, and what it should return.
type reasonCase struct {
	c        api.Claim
	i, flock int
	x        api.Reason
	want     api.Errno
}

func checkReasons(t *testing.T, cases ...reasonCase) {
	t.Helper()
	for n, x := range cases {
		if is := isReason(x.c, x.i, x.flock, x.x); is != (x.want == api.OK) {
			t.Error("the tests disagree", n)
		}
		if err := stray.CheckReason(x.c, x.i, x.flock, x.x); err != x.want {
			t.Error(n, err, x.want)
		}
	}
}

func prices(strays []int, flocks ...int) api.Reason {
	return api.Reason{Strays: strays, Flocks: flocks}
}

// P7.4: the chapter's example, and lists of wrong lengths.
func TestCheckReasonExample(t *testing.T) {
	one := claimOf(0, []int{1}, []int{0, 1})
	checkReasons(t,
		reasonCase{one, 0, 0, prices([]int{1}, 0), api.OK},
		reasonCase{one, 0, 0, prices([]int{2}, 1), api.OK},
		reasonCase{one, 0, 0, prices([]int{2}, 0), api.ErrReason},
		reasonCase{one, 0, 0, prices([]int{0}, 0), api.ErrReason},
		reasonCase{one, 0, 0, prices([]int{1}, 1), api.ErrReason},
		reasonCase{one, 0, 0, prices([]int{1, 0}, 0), api.ErrReason},
		reasonCase{one, 0, 0, prices([]int{1}, 0, 0), api.ErrReason},
		reasonCase{one, 0, 0, prices([]int{1}), api.ErrReason},
		reasonCase{one, 0, 0, prices(nil, 0), api.ErrReason},
		reasonCase{one, 0, 0, api.Reason{}, api.ErrReason},
	)
}

// P7.4: the ranges of prices, which may be huge and add up to more than 32 bits have.
func TestCheckReasonRanges(t *testing.T) {
	one := claimOf(0, []int{1}, []int{0, 1})
	// All strays but the first one have an option only with a flock that misses none.
	three := claimOf(3, []int{0, 1}, []int{1, 0}, []int{0, 0}, []int{0, 0})
	full := claimOf(65536, slices.Repeat([]int{64}, 64), slices.Repeat([][]int{{0, 65536}}, 64)...)
	same := func(n int) []int { return slices.Repeat([]int{n}, 64) }
	checkReasons(t,
		reasonCase{one, 0, 0, prices([]int{1 << 30}, 1<<30), api.ErrReason},
		reasonCase{one, 0, 0, prices([]int{1 << 30}, 1<<30-1), api.OK},
		reasonCase{one, 0, 0, prices([]int{1<<30 + 1}, 1<<30), api.ErrReason},
		reasonCase{one, 0, 0, prices([]int{1<<30 + 2}, 1<<30+1), api.ErrReason},
		reasonCase{one, 0, 0, prices([]int{0}, -1), api.ErrReason},
		reasonCase{one, 0, 0, prices([]int{highest}, highest-1), api.ErrReason},
		reasonCase{one, 0, 0, prices([]int{lowest}, lowest), api.ErrReason},
		reasonCase{one, 0, 0, prices([]int{-1 << 30}, 0), api.ErrReason},
		reasonCase{three, 1, 0, prices([]int{-1 << 30, 1 << 30, 1 << 30}, 1<<30, 0), api.OK},
		reasonCase{three, 1, 0, prices([]int{-1<<30 - 1, 1 << 30, 1 << 30}, 1<<30, 0), api.ErrReason},
		reasonCase{three, 1, 0, prices([]int{lowest, 1 << 30, 1 << 30}, 1<<30, 0), api.ErrReason},
		reasonCase{three, 1, 0, prices([]int{0, 1 << 30, 1 << 30}, 1<<30, 1<<30-4), api.OK},
		reasonCase{three, 1, 0, prices([]int{0, 1 << 30, 1 << 30}, 1<<30+1, 0), api.ErrReason},
		reasonCase{three, 1, 0, prices([]int{0, 1<<30 + 1, 1}, 1<<30, 0), api.ErrReason},
		reasonCase{three, 1, 1, prices([]int{0, 1<<30 + 1, 0}, 0, 0), api.ErrReason},
		reasonCase{three, 1, 1, prices([]int{0, 1 << 30, 0}, 0, 0), api.OK},
		reasonCase{full, 5, 0, prices(same(1<<30), same(1<<30)...), api.ErrReason},
		reasonCase{full, 5, 1, prices(same(65536), same(0)...), api.OK},
		reasonCase{full, 5, 0, prices(same(65536), same(0)...), api.OK},
		reasonCase{full, 5, 0, prices(same(1024), same(0)...), api.ErrReason},
		reasonCase{full, 5, 0, prices(append(same(1024)[1:], 1025), same(0)...), api.OK},
		reasonCase{full, 5, 0, prices(same(65537), same(0)...), api.ErrReason},
	)
}

// P7.4: each condition just fulfilled and just broken.
func TestCheckReasonLimits(t *testing.T) {
	// Of the stray 1 only the option with the flock that it is about matters. The flock 2 misses none.
	two := claimOf(3, []int{1, 2, 0}, []int{0, 2, 1, 5}, []int{0, 1, 1, 2, 2, 0})
	checkReasons(t,
		reasonCase{two, 1, 1, prices([]int{2, 2}, 0, 0, 0), api.OK},
		reasonCase{two, 1, 1, prices([]int{2, 1}, 0, 0, 0), api.ErrReason},
		reasonCase{two, 1, 1, prices([]int{3, 2}, 0, 0, 0), api.ErrReason},
		reasonCase{two, 1, 1, prices([]int{3, 2}, 1, 0, 0), api.OK},
		reasonCase{two, 1, 1, prices([]int{5, 2}, 3, 0, 0), api.OK},
		reasonCase{two, 1, 1, prices([]int{6, 2}, 4, 0, 0), api.ErrReason},
		reasonCase{two, 1, 1, prices([]int{2, 3}, 0, 0, 0), api.ErrReason},
		reasonCase{two, 1, 0, prices([]int{2, 2}, 0, 0, 0), api.ErrReason},
		reasonCase{two, 1, 0, prices([]int{2, 2}, 1, 0, 0), api.ErrReason},
		reasonCase{two, 1, 0, prices([]int{5, 3}, 3, 0, 0), api.OK},
		reasonCase{two, 1, 2, prices([]int{2, 2}, 0, 0, 2), api.OK},
		reasonCase{two, 1, 2, prices([]int{2, 2}, 0, 0, 1), api.ErrReason},
		reasonCase{two, 1, 2, prices([]int{-1 << 30, 1 << 30}, 0, 0, 1<<30), api.ErrReason},
		reasonCase{two, 1, 2, prices([]int{-1<<30 + 4, 1 << 30}, 0, 0, 1<<30), api.OK},
		reasonCase{two, 1, 2, prices([]int{-1<<30 - 1, 1 << 30}, 0, 0, 1<<30), api.ErrReason},
		reasonCase{two, 0, 2, prices([]int{1 << 30, 0}, 0, 0, 0), api.OK},
		reasonCase{two, 0, 2, prices([]int{1 << 30, -1<<30 + 4}, 0, 0, 0), api.OK},
		reasonCase{two, 0, 2, prices([]int{1 << 30, -1<<30 + 3}, 0, 0, 0), api.ErrReason},
		reasonCase{two, 0, 2, prices([]int{1 << 30, 1}, 0, 0, 0), api.ErrReason},
	)
}

// P7.4: the errors of Reason and CheckReason.
func TestReasonErrors(t *testing.T) {
	checkBothErrors(t, func(c api.Claim, i, flock int) (bool, api.Errno) {
		x, ok, err := stray.Reason(c, i, flock)
		return isNoReason(x) && !ok, err
	})
	checkBothErrors(t, func(c api.Claim, i, flock int) (bool, api.Errno) {
		return true, stray.CheckReason(c, i, flock, api.Reason{})
	})
}

// checkVerdicts checks Decide for a claim, and that CheckVerdict accepts each verdict with its witnesses.
func checkVerdicts(t *testing.T, c api.Claim, x answers) {
	t.Helper()
	same := unchanged(t, c)
	l, err := stray.Decide(c)
	if !x.is {
		if len(l) != 0 || err != api.ErrNone {
			t.Fatal(c, l, err)
		}
		return
	}
	if len(l) != len(c.Strays) || err != api.OK {
		t.Fatal(c, l, err)
	}
	for i, v := range l {
		if !slices.Equal(v.Flocks, x.flocks[i]) || len(v.Flocks)+len(v.Reasons) != len(c.Strays[i]) {
			t.Fatal(c, i, v, x.flocks[i])
		}
		at := 0
		for _, o := range c.Strays[i] {
			if slices.Contains(v.Flocks, o.Flock) {
				continue
			}
			if !isReason(c, i, o.Flock, v.Reasons[at]) {
				t.Fatal(c, i, o.Flock, v.Reasons[at])
			}
			at++
		}
		if ok, err := stray.CheckVerdict(c, i, v, witnessesOf(t, c, i, v.Flocks)); !ok || err != api.OK {
			t.Fatal(c, i, v, ok, err)
		}
	}
	same()
}

// P7.4, P7.10: the verdicts of small and of larger claims.
func TestDecide(t *testing.T) {
	for _, c := range smallClaims() {
		checkVerdicts(t, c, listed(c))
	}
	for _, c := range someClaims() {
		checkVerdicts(t, c, answersOf(c))
	}
	checkNone(t, func(c api.Claim) (bool, api.Errno) {
		l, err := stray.Decide(c)
		return len(l) == 0, err
	})
	if l, err := stray.Decide(claimOf(0, []int{1}, []int{0, 0}, []int{0, 0})); len(l) != 0 || err != api.ErrNone {
		t.Error(l, err)
	}
	if l, err := stray.Decide(api.Claim{}); len(l) != 0 || err != api.OK {
		t.Error(l, err)
	}
}

// accepts reports what CheckVerdict should return.
func accepts(c api.Claim, i int, v api.Verdict, witnesses [][]int) bool {
	if len(v.Flocks) == 0 || len(witnesses) != len(v.Flocks) {
		return false
	}
	last, at := -1, 0
	for k, flock := range v.Flocks {
		if flock <= last || !isValid(c, witnesses[k]) || witnesses[k][i] != flock {
			return false
		}
		last = flock
	}
	for _, o := range c.Strays[i] {
		if slices.Contains(v.Flocks, o.Flock) {
			continue
		}
		if at == len(v.Reasons) || !isReason(c, i, o.Flock, v.Reasons[at]) {
			return false
		}
		at++
	}
	return at == len(v.Reasons)
}

// spoiled returns a verdict and witnesses with some change, which may leave them as good as they were.
func spoiled(r *rand.Rand, c api.Claim, i int, v api.Verdict, witnesses [][]int) (api.Verdict, [][]int) {
	v = api.Verdict{Flocks: slices.Clone(v.Flocks), Reasons: slices.Clone(v.Reasons)}
	witnesses = slices.Clone(witnesses)
	switch k := r.Intn(len(v.Flocks)); r.Intn(9) {
	case 0:
		v.Flocks = slices.Delete(v.Flocks, k, k+1)
		witnesses = slices.Delete(witnesses, k, k+1)
	case 1:
		v.Flocks[k] += r.Intn(3) - 1
	case 2:
		v.Flocks = slices.Insert(v.Flocks, k, r.Intn(len(c.Missing)))
		witnesses = slices.Insert(witnesses, k, witnesses[k])
	case 3:
		witnesses[k] = slices.Clone(witnesses[k])
		witnesses[k][r.Intn(len(witnesses[k]))] = r.Intn(len(c.Missing))
	case 4:
		witnesses[k] = witnesses[k][:len(witnesses[k])-1]
	case 5:
		witnesses = append(witnesses, witnesses[k])
	case 6:
		v.Reasons = append(v.Reasons, api.Reason{Strays: make([]int, len(c.Strays)), Flocks: make([]int, len(c.Missing))})
	case 7:
		if len(v.Reasons) > 0 {
			at := r.Intn(len(v.Reasons))
			v.Reasons[at] = v.Reasons[r.Intn(len(v.Reasons))]
		}
	case 8:
		if len(v.Reasons) > 0 {
			v.Reasons = v.Reasons[1:]
		}
	}
	return v, witnesses
}

// P7.4, P7.10: CheckVerdict accepts no other verdict, and no other witnesses than such as are.
func TestCheckVerdict(t *testing.T) {
	r := rand.New(rand.NewSource(76))
	accepted, refused := 0, 0
	for _, c := range smallClaims() {
		l, err := stray.Decide(c)
		if err != api.OK {
			continue
		}
		for i, v := range l {
			good := witnessesOf(t, c, i, v.Flocks)
			for range 30 {
				w, witnesses := spoiled(r, c, i, v, good)
				want := accepts(c, i, w, witnesses)
				if ok, err := stray.CheckVerdict(c, i, w, witnesses); ok != want || err != api.OK {
					t.Fatal(c, i, w, witnesses, ok, err, want)
				}
				if want && !slices.Equal(w.Flocks, v.Flocks) {
					t.Fatal("another verdict", c, i, w, v)
				}
				if want {
					accepted++
				} else {
					refused++
				}
			}
		}
	}
	if accepted < 2000 || refused < 10000 {
		t.Error(accepted, refused)
	}
}

// P7.4: verdicts that are wrong in one respect each, and the errors.
func TestCheckVerdictErrors(t *testing.T) {
	c := claimOf(1, []int{1, 1, 1}, []int{0, 0, 1, 1, 2, 9}, []int{0, 0, 1, 0})
	none := api.Reason{Strays: []int{2, 0}, Flocks: []int{0, 0, 0}}
	v := api.Verdict{Flocks: []int{0, 1}, Reasons: []api.Reason{none}}
	a, b := []int{0, 1}, []int{1, 0}
	for n, x := range []struct {
		v         api.Verdict
		witnesses [][]int
		want      bool
	}{
		{v, [][]int{a, b}, true},
		{v, [][]int{b, a}, false},
		{v, [][]int{a}, false},
		{v, [][]int{a, b, b}, false},
		{v, [][]int{a, {1, 1}}, false},
		{v, [][]int{a, {1}}, false},
		{v, [][]int{a, {1, 0, 0}}, false},
		{v, [][]int{a, nil}, false},
		{v, nil, false},
		{api.Verdict{Flocks: []int{1, 0}, Reasons: v.Reasons}, [][]int{b, a}, false},
		{api.Verdict{Flocks: []int{0, 0}, Reasons: v.Reasons}, [][]int{a, a}, false},
		{api.Verdict{Flocks: []int{0, 3}, Reasons: v.Reasons}, [][]int{a, b}, false},
		{api.Verdict{Flocks: []int{lowest, highest}, Reasons: v.Reasons}, [][]int{a, b}, false},
		{api.Verdict{Flocks: []int{0, 1}}, [][]int{a, b}, false},
		{api.Verdict{Flocks: []int{0, 1}, Reasons: []api.Reason{none, none}}, [][]int{a, b}, false},
		{api.Verdict{Flocks: []int{0, 1}, Reasons: []api.Reason{{}}}, [][]int{a, b}, false},
		{api.Verdict{Flocks: []int{0}, Reasons: []api.Reason{none, none}}, [][]int{a}, false},
		{api.Verdict{Flocks: []int{0, 1, 2}}, [][]int{a, b, {2, 0}}, false},
		{api.Verdict{Reasons: []api.Reason{none, none, none}}, nil, false},
		{api.Verdict{}, nil, false},
	} {
		if want := accepts(c, 0, x.v, x.witnesses); want != x.want {
			t.Error("the tests disagree", n)
		}
		if ok, err := stray.CheckVerdict(c, 0, x.v, x.witnesses); ok != x.want || err != api.OK {
			t.Error(n, ok, err)
		}
	}
	// A stray with all its options excluded has no verdict, even though there are reasons against all of them.
	crowded := claimOf(0, []int{0}, []int{0, 0})
	if ok, err := stray.CheckVerdict(crowded, 0, api.Verdict{Reasons: []api.Reason{{Strays: []int{1}, Flocks: []int{1}}}}, nil); ok || err != api.OK {
		t.Error(ok, err)
	}
	checkStrayErrors(t, func(c api.Claim, i int) (bool, api.Errno) {
		ok, err := stray.CheckVerdict(c, i, v, [][]int{a, b})
		return !ok, err
	})
}

// P7.4, P7.8: no two reasons share memory.
func TestReasonMemory(t *testing.T) {
	c := claimOf(0, []int{1, 1, 1}, []int{0, 0, 1, 1, 2, 1}, []int{0, 1, 1, 0, 2, 1}, []int{0, 1, 1, 1, 2, 0})
	l, err := stray.Decide(c)
	if len(l) != 3 || err != api.OK {
		t.Fatal(l, err)
	}
	for i, v := range l {
		for k, x := range v.Reasons {
			flock := []int{0, 1, 2}
			flock = slices.Delete(flock, i, i+1)
			if !isReason(c, i, flock[k], x) {
				t.Error(i, k, x)
			}
			for n := range x.Strays {
				x.Strays[n] = -1 << 40
			}
			for n := range x.Flocks {
				x.Flocks[n] = -1 << 40
			}
		}
		v.Flocks[0] = -1
	}
}
