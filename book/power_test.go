package book_test

import (
	"math/rand"
	"slices"
	"strings"
	"testing"

	"earmark/api"
	"earmark/book"
)

// deed is a call of Add, of the only entry of list, or of Take.
type deed struct {
	add  bool
	list []api.Entry
}

func (x deed) do(b *book.Book) api.Errno {
	if x.add {
		return b.Add(x.list[0])
	}
	_, err := b.Take(x.list)
	return err
}

// deeds returns calls that add short and long entries, convict a parish, and convict it again with a lesser number.
func deeds() []deed {
	log := logOf(0, "a", strings.Repeat("b", 80), "c", "d")
	next := logOf(1, "x", "y", "z")
	return []deed{
		{true, log[:1]},
		{true, log[1:2]},
		{false, slices.Concat(next[:2], log[2:])},
		{true, []api.Entry{other(log[3], "D")}},
		{false, slices.Concat(next, []api.Entry{other(log[1], "B")}, log)},
		{true, next[2:]},
		{true, []api.Entry{other(next[0], "X")}},
	}
}

// keeps returns bytes for restarts after which all sets of up to six writes survive, as many as the deeds have that are not safe, the last one of them torn at some places.
func keeps() []string {
	l := []string{""}
	for set := 1; set < 64; set++ {
		for _, torn := range []byte{1, 4, 30, 63, 200} {
			var b []byte
			for x := set; x > 0; x /= 2 {
				b = append(b, byte(x%2)*torn)
			}
			l = append(l, string(b))
		}
	}
	return l
}

// state is what a book contains.
type state struct {
	entries []api.Entry
	proofs  []api.Proof
}

func stateOf(b *book.Book) state { return state{b.All(), b.Proofs()} }

func (x state) equals(y state) bool {
	return slices.Equal(x.entries, y.entries) && slices.Equal(x.proofs, y.proofs)
}

// checkKept checks what P8.6 says of a book that was opened when a book had contained old, and was given entries.
func checkKept(t *testing.T, old, found state, given []api.Entry) {
	t.Helper()
	bound := map[int]int{}
	for _, p := range found.proofs {
		bound[p.A.Parish] = p.A.No + 1
		if !slices.Contains(given, p.A) || !slices.Contains(given, p.B) {
			t.Fatal("a proof of nothing that was given", p)
		}
	}
	for _, p := range old.proofs {
		if n := bound[p.A.Parish]; n == 0 || n > p.A.No+1 {
			t.Fatal("a proof is lost", p)
		}
	}
	for _, e := range old.entries {
		if n := bound[e.Parish]; !slices.Contains(found.entries, e) && (n == 0 || e.No < n-1) {
			t.Fatal("an entry is lost", e)
		}
	}
	for _, e := range found.entries {
		if !slices.Contains(given, e) {
			t.Fatal("an entry that was not given", e)
		}
	}
}

// P8.5, P8.6: the power goes off at each call of the disk, and any writes survive. What is done again after that leads to the same.
func TestPowerAtEachCall(t *testing.T) {
	sticks := sticksOf(4, 3)
	all := deeds()
	var given []api.Entry
	for _, x := range all {
		given = append(given, x.list...)
	}
	b, _ := newBook(t, 64, sticks)
	for _, x := range all {
		x.do(b)
	}
	end := stateOf(b)
	interrupted := 0
	for n := 1; ; n++ {
		down := false
		for _, keep := range keeps() {
			b, d := newBook(t, 64, sticks)
			d.Arm(n)
			at := slices.IndexFunc(all, func(x deed) bool { return x.do(b) == api.ErrDown })
			if down = at >= 0; !down {
				break
			}
			interrupted++
			b = recovered(t, sticks, b, d, keep, given, all[at])
			for _, x := range all[at:] {
				if err := x.do(b); err != api.OK && err != api.ErrConvict {
					t.Fatal(n, keep, err)
				}
			}
			if !stateOf(b).equals(end) {
				t.Fatal(n, keep)
			}
		}
		if !down {
			break
		}
	}
	if interrupted < 60*200 {
		t.Error(interrupted)
	}
}

// recovered restarts the disk of a book whose power went off when it did something, checks the old book, and returns the one that is on the disk.
func recovered(t *testing.T, sticks [][]api.Stick, b *book.Book, d *book.Disk, keep string, given []api.Entry, x deed) *book.Book {
	t.Helper()
	old := stateOf(b)
	d.Restart(keep)
	if err := b.Add(old.next()); err != api.ErrDown {
		t.Fatal(err)
	}
	if n, err := b.Take(nil); n != 0 || err != api.ErrDown || !stateOf(b).equals(old) {
		t.Fatal(n, err)
	}
	o, err := book.Open(d, sticks)
	if err != api.OK {
		t.Fatal(err)
	}
	found := stateOf(o)
	checkKept(t, old, found, given)
	// It is what was there before the record that was interrupted, or behind it.
	logs := make([]plainLog, len(sticks))
	for _, p := range old.proofs {
		logs[p.A.Parish].proof = []api.Proof{p}
	}
	for _, e := range old.entries {
		logs[e.Parish].entries = append(logs[e.Parish].entries, e)
	}
	if !found.equals(old) {
		s := stepsOf(sticks, logs, x.list)[0]
		logs[s.parish] = s.log
		if l, p := listed(logs); !found.equals(state{l, p}) {
			t.Fatal(found, old)
		}
	}
	return o
}

// next returns an entry that a book would know of if the power had not gone off.
func (x state) next() api.Entry {
	if len(x.entries) > 0 {
		return x.entries[0]
	}
	return sealed(0, 0, 0, "a")
}

// P8.6: the power goes off again and again; what was once there stays, through all of it.
func TestPowerAgainAndAgain(t *testing.T) {
	r := rand.New(rand.NewSource(89))
	losses := 0
	for n := range 60 {
		sticks := sticksOf(5, 5, 5)
		all := forks(r, sticks, n%2 == 0)
		b, d := newBook(t, 300, sticks)
		var given []api.Entry
		for range 60 {
			if r.Intn(3) > 0 {
				d.Arm(1 + r.Intn(20))
			}
			x := deed{false, some(r, all, 1+r.Intn(20))}
			if r.Intn(2) == 0 {
				x = deed{true, []api.Entry{all[r.Intn(len(all))]}}
			}
			given = append(given, x.list...)
			before := stateOf(b)
			err := x.do(b)
			checkKept(t, before, stateOf(b), given)
			if err != api.ErrDown {
				continue
			}
			losses++
			old := stateOf(b)
			d.Restart(thrownKeep(r))
			if b, err = book.Open(d, sticks); err != api.OK {
				t.Fatal(err)
			}
			checkKept(t, old, stateOf(b), given)
		}
	}
	if losses < 300 {
		t.Error(losses)
	}
}
