package book_test

import (
	"math/rand"
	"slices"
	"strconv"
	"testing"

	"earmark/api"
	"earmark/book"
)

// forks returns logs of all parishes, of which all but the first one lie: each of these logs forks several times. No two different entries with one number have the same digest.
func forks(r *rand.Rand, sticks [][]api.Stick, long bool) []api.Entry {
	var l []api.Entry
	add := func(e api.Entry) bool {
		if slices.ContainsFunc(l, func(x api.Entry) bool {
			return x.Parish == e.Parish && x.No == e.No && plainDigest(x) == plainDigest(e)
		}) {
			return false
		}
		l = append(l, e)
		return true
	}
	for parish := range sticks {
		n := len(sticks[parish])
		log := logOf(parish, bodies(n)...)
		for _, e := range log {
			add(e)
		}
		for range min(parish, 1) * r.Intn(4) {
			e := other(log[r.Intn(n)], "fork "+strconv.Itoa(r.Intn(1000)))
			for add(e) && e.No < n-1 && (long || r.Intn(2) == 0) {
				e = behind(e, "on "+strconv.Itoa(r.Intn(1000)))
			}
		}
		if parish > 0 && r.Intn(3) == 0 {
			add(sealed(parish, r.Intn(n), r.Uint64(), "in no log"))
		}
	}
	return l
}

// ofProofs returns the entries of proofs.
func ofProofs(l []api.Proof) []api.Entry {
	var x []api.Entry
	for _, p := range l {
		x = append(x, p.A, p.B)
	}
	return x
}

// send has b take what a has for its tally, and the proofs of a: both in one list, one after the other, or the proofs first, or each proof for itself.
func send(t *testing.T, a, b *book.Book, way int) int {
	t.Helper()
	wanted, err := a.Wanted(b.Tally())
	if err != api.OK {
		t.Fatal(err)
	}
	proofs := ofProofs(a.Proofs())
	lists := [][]api.Entry{wanted}
	switch way {
	case 0:
		lists = [][]api.Entry{slices.Concat(wanted, proofs)}
	case 1:
		lists = append(lists, proofs)
	case 2:
		lists = [][]api.Entry{proofs, wanted}
	case 3:
		for i := 0; i < len(proofs); i += 2 {
			lists = append(lists, proofs[i:i+2])
		}
	}
	sum := 0
	for _, l := range lists {
		n, err := b.Take(l)
		if err != api.OK {
			t.Fatal(err)
		}
		sum += n
	}
	return sum
}

// checkAgree checks that two books have the same entries and the same convicted parishes, with the same numbers.
func checkAgree(t *testing.T, a, b *book.Book) {
	t.Helper()
	same := func(p, q api.Proof) bool { return p.A.Parish == q.A.Parish && p.A.No == q.A.No }
	if !slices.Equal(a.All(), b.All()) || !slices.EqualFunc(a.Proofs(), b.Proofs(), same) {
		t.Fatal(a.All(), a.Proofs(), b.All(), b.Proofs())
	}
}

// P8.7: two books that give each other what they want, one after the other or both at once.
func TestBooksAgree(t *testing.T) {
	r := rand.New(rand.NewSource(90))
	moved, proofs := 0, 0
	for n := range 400 {
		sticks := sticksOf([]int{1 + r.Intn(4), 1 + r.Intn(7), 2, 5}[:1+r.Intn(4)]...)
		all := forks(r, sticks, n%2 == 0)
		var books [2]*book.Book
		for i := range books {
			books[i], _ = newBook(t, 600, sticks)
			for range 1 + r.Intn(3) {
				if _, err := books[i].Take(some(r, all, 1+r.Intn(4))); err != api.OK {
					t.Fatal(err)
				}
			}
		}
		a, b := books[0], books[1]
		way := n % 5
		if way < 4 {
			moved += send(t, a, b, way)
			moved += send(t, b, a, r.Intn(4))
		} else {
			moved += exchange(t, a, b)
		}
		checkAgree(t, a, b)
		// They have nothing more to say.
		if x, y := send(t, a, b, 0), send(t, b, a, 0); x != 0 || y != 0 {
			t.Fatal(x, y)
		}
		proofs += len(a.Proofs())
	}
	if moved < 400 || proofs < 150 {
		t.Error(moved, proofs)
	}
}

// exchange has both books take what the other one had at first.
func exchange(t *testing.T, a, b *book.Book) int {
	t.Helper()
	fromA, err := a.Wanted(b.Tally())
	if err != api.OK {
		t.Fatal(err)
	}
	fromB, err := b.Wanted(a.Tally())
	if err != api.OK {
		t.Fatal(err)
	}
	fromA = append(fromA, ofProofs(a.Proofs())...)
	fromB = append(fromB, ofProofs(b.Proofs())...)
	n, err := a.Take(fromB)
	if err != api.OK {
		t.Fatal(err)
	}
	m, err := b.Take(fromA)
	if err != api.OK {
		t.Fatal(err)
	}
	return n + m
}

// P0.5, P8.7, P8.9, P8.10: several books that send to each other until nothing is new have the same, and the honest parish counts with all that came.
func TestManyBooksAgree(t *testing.T) {
	r := rand.New(rand.NewSource(91))
	for n := range 40 {
		sticks := sticksOf(6, 4, 5, 3)
		all := forks(r, sticks, n%2 == 0)
		books := make([]*book.Book, 4)
		for i := range books {
			books[i], _ = newBook(t, 600, sticks)
			books[i].Take(some(r, all, 1+r.Intn(3)))
		}
		for moved := 1; moved > 0; {
			moved = 0
			for i, a := range books {
				for j, b := range books {
					if i != j {
						moved += send(t, a, b, r.Intn(4))
					}
				}
			}
		}
		for _, b := range books {
			checkAgree(t, books[0], b)
			for _, p := range b.Proofs() {
				checkProof(t, sticks[p.A.Parish][p.A.No], p)
				if p.A.Parish == 0 {
					t.Fatal("an honest parish is convicted", p)
				}
			}
			l, _ := b.Entries(0)
			if at, err := book.CheckLog(sticks[0], 0, l); at != 0 || err != api.OK {
				t.Fatal(at, err)
			}
		}
	}
}

// forged returns entries that look like those of a parish, made by somebody who has seen its log but does not know its seed.
func forged(r *rand.Rand, log []api.Entry) []api.Entry {
	var l []api.Entry
	for range 60 {
		e, x := log[r.Intn(len(log))], log[r.Intn(len(log))]
		y := e
		y.Body = "forged " + strconv.Itoa(r.Intn(1000))
		switch r.Intn(4) {
		case 0: // the seal of another number
			y.Seal = x.Seal
		case 1: // a seal with the seed of another parish
			y = plainSeal(seedOf(7), y)
		case 2: // what is known of its own secrets, and other ones for the bits that differ
			for i := range y.Seal {
				if bitOf(plainDigest(y), i) != bitOf(plainDigest(e), i) {
					y.Seal[i] = x.Seal[i] + uint64(r.Intn(2))
				}
			}
		}
		if plainDigest(y) != plainDigest(e) {
			l = append(l, y)
		}
	}
	return append(l, twin(log[0], 0), twin(log[len(log)-1], 5))
}

// P8.10: an honest parish is never convicted, whatever others make of its log.
func TestHonest(t *testing.T) {
	r := rand.New(rand.NewSource(92))
	sticks := sticksOf(5, 2)
	log := logOf(0, bodies(5)...)
	for range 20 {
		all := slices.Concat(log, forged(r, log), forks(r, sticks, true))
		b, _ := newBook(t, 300, sticks)
		for range 5 {
			l := some(r, all, 1+r.Intn(3))
			if _, err := b.Take(l); err != api.OK {
				t.Fatal(err)
			}
			_, proofs, _ := book.Court(sticks, l, all)
			for _, p := range append(proofs, b.Proofs()...) {
				if p.A.Parish == 0 {
					t.Fatal(p)
				}
			}
			for _, e := range l {
				if err := b.Add(e); err == api.ErrConvict && e.Parish == 0 {
					t.Fatal(e)
				}
			}
		}
	}
}
