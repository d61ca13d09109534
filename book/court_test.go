package book_test

import (
	"math/rand"
	"slices"
	"strconv"
	"strings"
	"testing"

	"earmark/api"
	"earmark/book"
)

// bodies returns n different bodies, some of them long.
func bodies(n int) []string {
	l := make([]string, n)
	for i := range l {
		l[i] = strings.Repeat("body "+strconv.Itoa(i)+" ", 1+i*i%37)
	}
	return l
}

// plainCheckLog is CheckLog by the chapter.
func plainCheckLog(sticks []api.Stick, parish int, l []api.Entry) (int, api.Errno) {
	prev := uint64(0)
	for i, e := range l {
		if !plainValid(e) || e.Parish != parish || e.No != i || i >= len(sticks) || e.Prev != prev {
			return i, api.ErrEntry
		}
		if !plainFits(sticks[i], e) {
			return i, api.ErrSeal
		}
		prev = hashOf(e)
	}
	return 0, api.OK
}

// P8.3, P8.10: logs that were sealed with the seed of the sticks, of all lengths.
func TestCheckLog(t *testing.T) {
	all := sticksOf(64, 64, 64, 64, 64, 64, 64, 64)
	for parish, sticks := range all {
		l := logOf(parish, bodies(64)...)
		for _, n := range []int{0, 1, 2, 33, 63, 64} {
			if at, err := book.CheckLog(sticks, parish, l[:n]); at != 0 || err != api.OK {
				t.Error(parish, n, at, err)
			}
		}
		for _, n := range []int{1, 2, 63} {
			if at, err := book.CheckLog(sticks[:n], parish, l); at != n || err != api.ErrEntry {
				t.Error(parish, n, at, err)
			}
		}
		if at, err := book.CheckLog(sticks, (parish+1)%8, l); at != 0 || err != api.ErrEntry {
			t.Error(parish, at, err)
		}
		if at, err := book.CheckLog(all[(parish+1)%8], parish, l); at != 0 || err != api.ErrSeal {
			t.Error(parish, at, err)
		}
	}
	l := logOf(0, bodies(64)...)
	if at, err := book.CheckLog(all[0], 0, append(l, behind(l[63], "too many"))); at != 64 || err != api.ErrEntry {
		t.Error(at, err)
	}
}

// P8.3: logs that are wrong in one place.
func TestCheckLogOfBad(t *testing.T) {
	sticks := sticksOf(9, 9, 9)[2]
	l := logOf(2, bodies(9)...)
	for i := range l {
		for n, e := range []api.Entry{
			{Parish: 2, No: i, Prev: l[i].Prev, Body: l[i].Body},
			sealed(2, i, l[i].Prev+1, "x"), sealed(2, i+1, l[i].Prev, "x"), sealed(1, i, l[i].Prev, "x"), sealed(2, 0, 0, "x"), other(l[i], "x"),
			l[max(0, i-1)], l[min(8, i+1)], {Parish: 2, No: i, Prev: l[i].Prev, Body: strings.Repeat("x", 4097)}, {Parish: -1}, {Parish: 2, No: -1}, {},
		} {
			x := slices.Clone(l)
			x[i] = e
			want, wantErr := plainCheckLog(sticks, 2, x)
			if at, err := book.CheckLog(sticks, 2, x); at != want || err != wantErr {
				t.Error(i, n, at, err, want, wantErr)
			}
		}
	}
	x := slices.Clone(l)
	x[3].Seal[7]++
	x[5].Prev = 0
	if at, err := book.CheckLog(sticks, 2, x); at != 3 || err != api.ErrSeal {
		t.Error(at, err)
	}
	x[3], x[5] = l[3], twin(l[5], l[5].Prev)
	if at, err := book.CheckLog(sticks, 2, x); at != 6 || err != api.ErrEntry {
		t.Error(at, err)
	}
	for _, s := range [][]api.Stick{nil, {}, make([]api.Stick, 65)} {
		for _, parish := range []int{2, -1} {
			if at, err := book.CheckLog(s, parish, l); at != 0 || err != api.ErrStick {
				t.Error(len(s), at, err)
			}
		}
	}
	for _, parish := range []int{lowest, -1, 8, 258, highest} {
		for _, l := range [][]api.Entry{l, nil} {
			if at, err := book.CheckLog(sticks, parish, l); at != 0 || err != api.ErrArg {
				t.Error(parish, at, err)
			}
		}
	}
}

// checkConvict checks Convict for two entries, and CheckProof for all that can be made of them.
func checkConvict(t *testing.T, s api.Stick, a, b api.Entry) {
	t.Helper()
	same := plainValid(a) && plainValid(b) && a.Parish == b.Parish && a.No == b.No
	fit := same && plainFits(s, a) && plainFits(s, b)
	differ := same && plainDigest(a) != plainDigest(b)
	want := api.OK
	switch {
	case !same:
		want = api.ErrEntry
	case !fit:
		want = api.ErrSeal
	}
	p, ok, err := book.Convict(s, a, b)
	if ok != (fit && differ) || err != want || !ok && p != (api.Proof{}) {
		t.Fatal(a, b, p, ok, err)
	}
	if ok {
		if x := (api.Proof{A: a, B: b}); plainEncoding(b) < plainEncoding(a) && p != (api.Proof{A: b, B: a}) || plainEncoding(a) < plainEncoding(b) && p != x {
			t.Fatal(a, b, p)
		}
		checkProof(t, s, p)
	}
	for _, p := range []api.Proof{{A: a, B: b}, {A: b, B: a}} {
		want := want
		if !same || !differ || plainEncoding(p.A) >= plainEncoding(p.B) {
			want = api.ErrEntry
		}
		if err := book.CheckProof(s, p); err != want {
			t.Fatal(p, err, want)
		}
	}
}

// P8.9: checkProof checks that a proof is accepted, and that it contains two secrets of one bit.
func checkProof(t *testing.T, s api.Stick, p api.Proof) {
	t.Helper()
	if err := book.CheckProof(s, p); err != api.OK {
		t.Fatal(p, err)
	}
	both := false
	for i := range 16 {
		x, y := book.Image(p.A.Seal[i]), book.Image(p.B.Seal[i])
		both = both || x == s.Images[i][0] && y == s.Images[i][1] || x == s.Images[i][1] && y == s.Images[i][0]
	}
	if !both {
		t.Fatal(p)
	}
}

// P8.3, P8.9: pairs of entries.
func TestConvict(t *testing.T) {
	s := plainStick(seedOf(1), 1, 3)
	e := sealed(1, 3, 8, "e")
	bad := e
	bad.Seal[15]++
	l := []api.Entry{
		e, other(e, "f"), other(e, ""), sealed(1, 3, 9, "e"), twin(e, 8), twin(e, 1<<40), sealed(1, 3, 256, "e"), sealed(1, 3, 8, strings.Repeat("e", 256)), sealed(1, 3, 8, strings.Repeat("a", 4096)),
		bad, sealed(1, 4, 8, "e"), sealed(2, 3, 8, "e"), {Parish: 1, No: 3}, {Parish: 1, No: 3, Body: "x"}, {},
	}
	l = append(l, badEntries()...)
	for _, a := range l {
		for _, b := range l {
			checkConvict(t, s, a, b)
			checkConvict(t, plainStick(seedOf(1), 1, 4), a, b)
		}
	}
}

// P8.3: the order of entries is that of their encodings, in which the lowest bytes come first.
func TestConvictOrder(t *testing.T) {
	s := plainStick(seedOf(0), 0, 0)
	for _, x := range [][2]api.Entry{
		{sealed(0, 0, 256, ""), sealed(0, 0, 1, "")},
		{sealed(0, 0, 1<<63, "b"), sealed(0, 0, 2, "a")},
		{sealed(0, 0, 0, strings.Repeat("z", 256)), sealed(0, 0, 0, "a")},
		{sealed(0, 0, 0, "z"), sealed(0, 0, 0, "aa")},
		{sealed(0, 0, 0, "a\xfe"), sealed(0, 0, 0, "a\xff")},
	} {
		for _, y := range [][2]api.Entry{x, {x[1], x[0]}} {
			p, ok, err := book.Convict(s, y[0], y[1])
			if p != (api.Proof{A: x[0], B: x[1]}) || !ok || err != api.OK {
				t.Error(p, ok, err)
			}
		}
	}
}

// P8.3: sticks with equal images, whose one secret fits either value of a bit.
func TestConvictWithEqualImages(t *testing.T) {
	var s api.Stick
	var seal [16]uint64
	for i := range s.Images {
		seal[i] = uint64(i)
		s.Images[i] = [2]uint64{plainImage(uint64(i)), plainImage(uint64(i))}
	}
	a, b := api.Entry{Parish: 4, Body: "a", Seal: seal}, api.Entry{Parish: 4, Body: "b", Seal: seal}
	checkConvict(t, s, a, b)
	if _, ok, err := book.Convict(s, b, a); !ok || err != api.OK {
		t.Error(ok, err)
	}
}

// pool returns entries about some parishes with the same number of sticks: logs and their forks, twins, entries without a stick or with a wrong seal or Prev, and entries that are not valid.
func pool(r *rand.Rand, sticks [][]api.Stick) []api.Entry {
	var l []api.Entry
	for parish := range sticks {
		n := len(sticks[parish])
		log := logOf(parish, bodies(n)...)
		l = append(l, log...)
		l = append(l, behind(log[n-1], "behind the last one"))
		for range r.Intn(4) {
			e := other(log[r.Intn(n)], "fork "+strconv.Itoa(r.Intn(100)))
			for l = append(l, e); e.No < n-1 && r.Intn(3) > 0; l = append(l, e) {
				e = behind(e, "on "+strconv.Itoa(r.Intn(100)))
			}
		}
		e := log[r.Intn(n)]
		x := twin(e, e.Prev)
		l = append(l, x, behind(x, "behind a twin"), twin(e, e.Prev+1), sealed(parish, r.Intn(n), r.Uint64(), "wrong"))
		x = log[r.Intn(n)]
		x.Seal[r.Intn(16)]++
		l = append(l, x, api.Entry{Parish: parish, No: r.Intn(n)})
	}
	l = append(l, sealed(len(sticks)%8, 0, 0, "no stick"), api.Entry{Parish: -1}, api.Entry{No: 64}, api.Entry{Body: strings.Repeat("x", 4097)})
	return l
}

// some returns about one in n of l, in another order, some of them twice.
func some(r *rand.Rand, l []api.Entry, n int) []api.Entry {
	var x []api.Entry
	for _, i := range r.Perm(len(l)) {
		if r.Intn(n) == 0 {
			x = append(x, l[i])
		}
		if r.Intn(5*n) == 0 {
			x = append(x, l[i])
		}
	}
	return x
}

// P8.3, P8.8, P8.9: courts on thrown lists, in any order, and books that take all of it.
func TestCourt(t *testing.T) {
	r := rand.New(rand.NewSource(85))
	convicted, counted := 0, 0
	var sticks [][]api.Stick
	var all []api.Entry
	for n := range 180 {
		if n%12 == 0 {
			sticks = sticksOf([]int{1 + r.Intn(5), 1 + r.Intn(9), 4}[:1+r.Intn(3)]...)
			all = pool(r, sticks)
		}
		a, b := some(r, all, 1+n%4), some(r, all, 1+n%6)
		x, y := slices.Clone(a), slices.Clone(b)
		l, p, err := book.Court(sticks, a, b)
		want, proofs := plainCourt(sticks, slices.Concat(a, b))
		if !slices.Equal(l, want) || !slices.Equal(p, proofs) || err != api.OK {
			t.Fatal(n, l, p, err, want, proofs)
		}
		if !slices.Equal(a, x) || !slices.Equal(b, y) {
			t.Fatal("the lists have changed")
		}
		for _, p := range p {
			checkProof(t, sticks[p.A.Parish][p.A.No], p)
		}
		convicted, counted = convicted+len(p), counted+len(l)
		checkSameCourt(t, r, sticks, slices.Concat(a, b), l, p)
	}
	if convicted < 100 || counted < 100 {
		t.Error(convicted, counted)
	}
	for _, sticks := range badSticks() {
		if l, p, err := book.Court(sticks, nil, nil); len(l) > 0 || len(p) > 0 || err != api.ErrStick {
			t.Error(l, p, err)
		}
	}
	if l, p, err := book.Court(sticksOf(1), nil, nil); len(l) > 0 || len(p) > 0 || err != api.OK {
		t.Error(l, p, err)
	}
}

// checkSameCourt checks that the same entries in other lists give the same, also to an empty book.
func checkSameCourt(t *testing.T, r *rand.Rand, sticks [][]api.Stick, all, l []api.Entry, p []api.Proof) {
	t.Helper()
	for range 3 {
		again := slices.Concat(all, some(r, all, 2))
		r.Shuffle(len(again), func(i, j int) { again[i], again[j] = again[j], again[i] })
		cut := r.Intn(len(again) + 1)
		m, q, err := book.Court(sticks, again[:cut], again[cut:])
		if !slices.Equal(l, m) || !slices.Equal(p, q) || err != api.OK {
			t.Fatal(l, p, m, q, err)
		}
		b, _ := newBook(t, 4096, sticks)
		n, err := b.Take(again)
		if !slices.Equal(b.All(), l) || !slices.Equal(b.Proofs(), p) || n != len(l)+len(p) || err != api.OK {
			t.Fatal(n, err)
		}
	}
}

// P8.3: which of several pairs is the proof, and which of several entries is added.
func TestCourtChoice(t *testing.T) {
	sticks := sticksOf(4, 4)
	log := logOf(1, "a", "b", "c", "d")
	var forks []api.Entry
	for i := range 5 {
		forks = append(forks, other(log[1], strings.Repeat("x", i*70)))
	}
	slices.SortFunc(forks, func(a, b api.Entry) int { return strings.Compare(plainEncoding(a), plainEncoding(b)) })
	for _, l := range [][]api.Entry{{forks[4], forks[2], forks[3]}, {forks[2], forks[2], forks[3], forks[4], log[2], log[3]}} {
		counting, proofs, err := book.Court(sticks, l, log[:1])
		if !slices.Equal(counting, log[:1]) || !slices.Equal(proofs, []api.Proof{{A: forks[2], B: forks[3]}}) || err != api.OK {
			t.Error(counting, proofs, err)
		}
	}
	// Two twins of the least entry come before the least one that convicts it.
	e := forks[0]
	twins := []api.Entry{e, twin(e, 0), twin(e, 1)}
	slices.SortFunc(twins, func(a, b api.Entry) int { return strings.Compare(plainEncoding(a), plainEncoding(b)) })
	if l, p, err := book.Court(sticks, twins, log[:1]); len(p) > 0 || err != api.OK || len(l) < 1 {
		t.Error(l, p, err)
	}
	last := other(e, strings.Repeat("z", 255))
	_, p, err := book.Court(sticks, append(twins, last), log[:1])
	if want, _, _ := book.Convict(sticks[1][1], twins[0], last); plainEncoding(last) > plainEncoding(twins[2]) && (len(p) != 1 || p[0] != want) || len(p) != 1 || err != api.OK {
		t.Error(p, err)
	}
	// Of twins with the right Prev the least one is added, whatever comes behind the other one.
	x := twin(log[1], log[1].Prev)
	least := log[1]
	if plainEncoding(x) < plainEncoding(least) {
		least = x
	}
	l, p, err := book.Court(sticks, []api.Entry{log[1], log[0]}, []api.Entry{x})
	if !slices.Equal(l, []api.Entry{log[0], least}) || len(p) > 0 || err != api.OK {
		t.Error(l, p, err)
	}
	// The least number counts, even if no entry is there ahead of it.
	later := []api.Entry{log[3], other(log[3], "x"), log[2], other(log[2], "y")}
	l, p, err = book.Court(sticks, later, nil)
	if len(l) > 0 || len(p) != 1 || p[0].A.No != 2 || err != api.OK {
		t.Error(l, p, err)
	}
}
