package year_test

import (
	"fmt"
	"math/rand"
	"strconv"
	"strings"
	"sync"
	"testing"

	"earmark/api"
	"earmark/year"
)

// marks are few, so that those of different flocks often clash, and sheep that are seen often have one of them. The first ones are apart within a step and a cut; of the others some can be cut out of them, and some come of them by a step.
var marks = []string{
	"w........... w...........", "f.k......... w...........", "w........... f......k.o..", "h........... h...........", "cb.k........ wk.k........",
	"w.n......... w...........", "w.k......... w...........", "c.k......... w...........", "f.k......... c...........", "f........... f......k.o..", "cb.k........ c.k.........", "h.........o. h...........",
}

const apart = 5

// thrower throws lines that fit to a model: its parishes, what they have written, and few gatherings.
type thrower struct {
	*rand.Rand
	parishes, grazings, gatherings int
	lies, crashes                  bool
}

func (r thrower) from(l ...string) string { return l[r.Intn(len(l))] }

// mark returns a mark, most often one of the first ones.
func (r thrower) mark() string {
	if r.Intn(4) > 0 {
		return marks[r.Intn(apart)]
	}
	return r.from(marks...)
}

func (r thrower) parish() int {
	if r.Intn(80) == 0 {
		return r.Intn(8)
	}
	return r.Intn(r.parishes)
}

// others returns two parishes, most often different ones.
func (r thrower) others() string {
	p, q := r.parish(), r.parish()
	for r.Intn(8) > 0 && p == q && r.parishes > 1 {
		q = r.parish()
	}
	return fmt.Sprint(p, " ", q)
}

// name returns the name of an entry.
func (r thrower) name() string { return fmt.Sprintf("%d.%d", r.parish(), r.Intn(1+r.Intn(7))) }

// at returns a day of an event.
func (r thrower) at() int { return r.Intn(1 + r.Intn(60)) }

func (r thrower) form() string {
	switch r.Intn(14) {
	case 0:
		return fmt.Sprintf("sell %d %s %d", r.at(), r.name(), r.Intn(4))
	case 1:
		return fmt.Sprintf("split %d %s %d %s", r.at(), r.name(), r.Intn(4), r.from(marks...))
	case 2:
		return fmt.Sprintf("rest %d %s", r.at(), r.name())
	case 3:
		return fmt.Sprintf("resume %d %s", r.at(), r.name())
	case 4:
		return fmt.Sprintf("move %d %s %d", r.at(), r.name(), r.Intn(r.grazings))
	case 5, 6, 7, 8:
		return fmt.Sprintf("miss %d %d %d", r.Intn(r.gatherings), r.Intn(4), r.Intn(6))
	}
	grazing := r.Intn(r.grazings)
	if r.Intn(40) == 0 {
		grazing = 15
	}
	return fmt.Sprintf("admit %d %d %d %s", r.at(), r.Intn(4), grazing, r.mark())
}

func (r thrower) sheet() string {
	parts := 1 + r.Intn(3)
	line := fmt.Sprintf("sheet %d %d %d %d %d %d", r.parish(), r.Intn(r.gatherings), r.Intn(2), r.Intn(parts+1), parts, r.Intn(r.grazings))
	if r.Intn(2) == 0 {
		// A key that comes again and again, with the same or with other heads.
		line = fmt.Sprintf("sheet %d 0 0 0 2 0", r.parish())
	}
	for range r.Intn(4) {
		line += fmt.Sprintf(" ; %s %d %d %s", r.from("ewe", "ram"), r.Intn(3), r.Intn(3)/2, r.mark())
	}
	return line
}

// line returns a line that is most often possible.
func (r thrower) line() string {
	switch n := r.Intn(40); {
	case n < 13:
		return fmt.Sprintf("write %d %s", r.parish(), r.form())
	case n < 17:
		return r.sheet()
	case n < 19:
		return fmt.Sprintf("day %d", 1+r.Intn(20))
	case n < 22:
		return "send " + r.others()
	case n < 23:
		return "sendall"
	case n < 25 && r.lies:
		return fmt.Sprintf("forge %s %d %s", r.others(), r.Intn(3), r.form())
	case n < 26 && r.crashes:
		return fmt.Sprintf("crash %d %d", r.parish(), 1+r.Intn(12))
	case n < 29 && r.crashes:
		return fmt.Sprintf("open %d %s", r.parish(), r.from("0", "9", "99999999", "8888", "7", "0909", "1234"))
	}
	p := r.parish()
	return r.from(
		fmt.Sprintf("owner %d %s %d", p, r.name(), r.at()),
		fmt.Sprintf("marks %d %d", p, r.at()),
		fmt.Sprintf("refused %d", p),
		fmt.Sprintf("missing %d", p),
		fmt.Sprintf("verdicts %d %d %d", p, r.Intn(r.gatherings), r.Intn(4)),
		fmt.Sprintf("pay %d %d %d %d", p, r.Intn(r.gatherings), r.Intn(4), r.Intn(100)),
		fmt.Sprintf("proofs %d", p),
		"agree "+r.others(),
		r.from("grazings 3", "gate 0 1 5 9", "begin 2 9 1 0 5"),
	)
}

// throwerOf returns a thrower, and the lines that begin the model that it is for.
func throwerOf(seed int64, lies, crashes bool) (thrower, []string) {
	r := thrower{Rand: rand.New(rand.NewSource(seed)), lies: lies, crashes: crashes, gatherings: 2}
	r.parishes, r.grazings = 1+r.Intn(4), 1+r.Intn(3)
	lines := []string{fmt.Sprint("grazings ", r.grazings)}
	for range r.Intn(3) {
		lines = append(lines, fmt.Sprint("gate ", r.Intn(2), " ", 1+r.Intn(2), " ", r.Intn(360), " ", r.Intn(360)))
	}
	lines = append(lines, fmt.Sprint("begin ", r.parishes, " ", 4+r.Intn(20), " ", r.Intn(2), " ", r.Intn(2), " ", r.Int63()>>1))
	for range r.Intn(5) {
		flock := r.Intn(4)
		lines = append(lines, fmt.Sprintf("write %d admit 0 %d 0 %s", r.Intn(r.parishes), flock, marks[r.Intn(apart)]), fmt.Sprintf("write %d miss 0 %d 2", r.Intn(r.parishes), flock))
	}
	return r, append(lines, "sendall")
}

// tally counts what happens in tests that run at the same time.
type tally struct {
	sync.Mutex
	counts map[string]int
}

func (c *tally) add(what string) {
	c.Lock()
	defer c.Unlock()
	if c.counts == nil {
		c.counts = map[string]int{}
	}
	c.counts[what]++
}

// atOnce runs a test for so many seeds, several of them at the same time.
func atOnce(t *testing.T, seeds int, test func(t *testing.T, seed int64)) {
	t.Helper()
	t.Run("seeds", func(t *testing.T) {
		for seed := range int64(seeds) {
			t.Run(strconv.FormatInt(seed, 10), func(t *testing.T) {
				t.Parallel()
				test(t, seed)
			})
		}
	})
}

// P9.2, P9.3: thrown commands, against the plain reading; those that return an error other than ErrDown, ErrFull and ErrConvict change nothing.
func TestThrown(t *testing.T) {
	var seen tally
	atOnce(t, 120, func(t *testing.T, seed int64) {
		r, lines := throwerOf(seed, seed%2 == 0, seed%4 < 2)
		y, m := year.New(), &plain{}
		gathering, wrong := r.Intn(2), r.Intn(3)
		before := report(y, gathering, wrong)
		for n := range 80 {
			line := r.line()
			if n < len(lines) {
				line = lines[n]
			}
			want, wantErr := m.do(line)
			output, err := y.Do(line)
			if output != want || err != wantErr {
				t.Fatalf("%d: %q: %q %d, not %q %d", n, line, output, err, want, wantErr)
			}
			after := report(y, gathering, wrong)
			if after != before && err != api.OK && err != api.ErrDown && err != api.ErrFull && err != api.ErrConvict {
				t.Fatalf("%d: %q: %d", n, line, err)
			}
			if after != before {
				if want := m.report(gathering, wrong); after != want {
					t.Fatalf("%d: %q:\n%s\n%s", n, line, after, want)
				}
			}
			before = after
			word, _, _ := strings.Cut(line, " ")
			seen.add(fmt.Sprint(word, " ", err))
			if output != "" {
				seen.add(word)
			}
		}
	})
	for _, what := range []string{"write 0", "write 81", "write 83", "write 86", "write 91", "sheet 0", "sheet 61", "forge 0", "forge 1", "send 0", "send 83", "sendall 0", "sendall 83", "open 0", "owner 0", "owner 52", "verdicts 0", "verdicts 70", "verdicts 71", "pay 0", "pay 70", "pay 71", "grazings 91", "gate 91", "begin 91",
		"write", "sheet", "forge", "send", "sendall", "owner", "marks", "refused", "missing", "verdicts", "pay", "proofs", "agree"} {
		if seen.counts[what] < 5 {
			t.Error(what, seen.counts[what])
		}
	}
}
