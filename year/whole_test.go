package year_test

import (
	"fmt"
	"slices"
	"strings"
	"testing"

	"earmark/api"
	"earmark/book"
	"earmark/ear"
	"earmark/fell"
	"earmark/knife"
	"earmark/register"
	"earmark/sheets"
	"earmark/stray"
	"earmark/weather"
	"earmark/year"
)

// played is a model in which thrown lines were done, and what the parishes have written with OK.
type played struct {
	*year.Year
	r thrower
	// written has the lines of each parish; heads has the hash of its book's last entry of its own after each of them.
	written [][]string
	heads   [][]uint64
	lies    []bool
	// lost is whether the power went off.
	lost bool
}

// play throws lines at a new model.
func play(t *testing.T, seed int64, lies, crashes bool, lines int, each func(p *played, line string, err api.Errno)) *played {
	t.Helper()
	r, first := throwerOf(seed, lies, crashes)
	p := &played{Year: year.New(), r: r, written: make([][]string, 8), heads: make([][]uint64, 8), lies: make([]bool, 8)}
	for n := range lines {
		line := r.line()
		if n < len(first) {
			line = first[n]
		}
		p.do(line, each)
	}
	return p
}

func (p *played) do(line string, each func(p *played, line string, err api.Errno)) api.Errno {
	output, err := p.Do(line)
	w := strings.Split(line, " ")
	switch {
	case err == api.ErrDown:
		p.lost = true
	case (w[0] == "write" || w[0] == "sheet") && err == api.OK:
		parish := number(w[1])
		no := number(strings.Split(output, ".")[1])
		t, _ := p.Tally(parish)
		p.written[parish] = append(p.written[parish][:min(no, len(p.written[parish]))], line)
		p.heads[parish] = append(p.heads[parish][:min(no, len(p.heads[parish]))], t.Heads[parish])
	}
	if w[0] == "forge" && err != api.ErrState && err != api.ErrArg {
		p.lies[number(w[1])] = true
	}
	if each != nil {
		each(p, line, err)
	}
	return err
}

// openAll opens all books, with nothing that was not safe.
func (p *played) openAll(t *testing.T) {
	t.Helper()
	for n := range p.Parishes() {
		doAll(t, p.Year, fmt.Sprintf("open %d 0", n))
	}
}

// P9.4, P0.5: books with the same tally agree at any time, and all do after a sendall.
func TestAgreement(t *testing.T) {
	var seen tally
	atOnce(t, 80, func(t *testing.T, seed int64) {
		play(t, 1000+seed, seed%2 == 0, seed%4 < 2, 80, func(p *played, line string, err api.Errno) {
			for a := range p.Parishes() {
				for b := range a {
					x, err1 := p.Tally(a)
					y, err2 := p.Tally(b)
					if err1 != api.OK || err2 != api.OK {
						continue
					}
					same := slices.Equal(x.Have, y.Have) && slices.Equal(x.Heads, y.Heads)
					all := line == "sendall" && err == api.OK
					if !same && all {
						t.Fatal(a, b, x, y)
					}
					if !same {
						continue
					}
					if is, err := p.Agree(a, b); !is || err != api.OK {
						t.Fatal(a, b, is, err)
					}
					seen.add(fmt.Sprint("sendall ", all))
					if proofs, _ := p.Proofs(a); all && len(proofs) > 0 {
						seen.add("convicted")
					}
				}
			}
		})
	})
	for _, what := range []string{"sendall true", "sendall false", "convicted"} {
		if seen.counts[what] < 20 {
			t.Error(what, seen.counts)
		}
	}
}

// P9.5, P0.5: what an honest parish has written with OK is in its book after each open that returns OK; besides there is one entry at the most, the writing of which was interrupted.
func TestNothingIsLost(t *testing.T) {
	var seen tally
	atOnce(t, 80, func(t *testing.T, seed int64) {
		play(t, 2000+seed, seed%2 == 0, true, 100, func(p *played, line string, err api.Errno) {
			w := strings.Split(line, " ")
			if w[0] != "open" || err != api.OK || p.lies[number(w[1])] {
				return
			}
			n := number(w[1])
			x, err := p.Tally(n)
			have := len(p.heads[n])
			if err != api.OK || x.Have[n] < have || x.Have[n] > have+1 || x.Have[n] == have && have > 0 && x.Heads[n] != p.heads[n][have-1] {
				t.Fatal(line, x, p.heads[n], err)
			}
			if x.Have[n] > have {
				// From now on it is there.
				p.heads[n] = append(p.heads[n], x.Heads[n])
				p.written[n] = append(p.written[n], "")
				seen.add("interrupted")
			}
			if p.lost {
				seen.add("lost")
			}
		})
	})
	if seen.counts["lost"] < 100 || seen.counts["interrupted"] < 5 {
		t.Error(seen.counts)
	}
}

// P9.6, P0.5: an honest parish is never convicted; the proofs against others are two entries of theirs with one number.
func TestLiars(t *testing.T) {
	var seen tally
	atOnce(t, 80, func(t *testing.T, seed int64) {
		play(t, 3000+seed, true, seed%2 == 0, 80, func(p *played, line string, err api.Errno) {
			for n := range p.Parishes() {
				proofs, err := p.Proofs(n)
				if err != api.OK {
					continue
				}
				for _, x := range proofs {
					if !p.lies[x.A.Parish] || x.A.Parish != x.B.Parish || x.A.No != x.B.No || x.A == x.B {
						t.Fatal(x, p.lies)
					}
					a, _ := book.Digest(x.A)
					b, _ := book.Digest(x.B)
					if a == b {
						t.Fatal(x)
					}
					seen.add("proof")
				}
			}
		})
	})
	if seen.counts["proof"] < 100 {
		t.Error(seen.counts)
	}
}

// P9.7: if all are honest, the register of each is that of all that was written.
func TestTruthOfAll(t *testing.T) {
	var seen tally
	atOnce(t, 60, func(t *testing.T, seed int64) {
		p := play(t, 4000+seed, false, seed%2 == 0, 70, nil)
		p.openAll(t)
		doAll(t, p.Year, "sendall")
		truth := p.Truth()
		for n := range p.Parishes() {
			if r, err := p.Register(n); fmt.Sprint(r) != fmt.Sprint(truth) || err != api.OK {
				t.Fatal(n, r, truth, err)
			}
		}
		for range truth.Events {
			seen.add("event")
		}
	})
	if seen.counts["event"] < 200 {
		t.Error(seen.counts)
	}
}

// P0.6: when all has been sent to all, all honest parishes have the same register, roll and verdicts, and the entries of the honest ones are all there.
func TestYears(t *testing.T) {
	var seen tally
	atOnce(t, 80, func(t *testing.T, seed int64) {
		p := play(t, 5000+seed, true, seed%2 == 0, 90, nil)
		p.openAll(t)
		doAll(t, p.Year, "sendall")
		check(t, p.Year, "sendall", "0", api.OK)
		reports := map[string]bool{}
		for n := range p.Parishes() {
			r, _ := p.Register(n)
			refused, _ := p.Refused(n)
			roll, conflicts, rollErr := p.Roll(n)
			c, claimErr := p.Claim(n, 0, 1)
			verdicts, verdictsErr := p.Verdicts(n, 0, 1)
			x, _ := p.Tally(n)
			reports[fmt.Sprint(r, refused, roll, conflicts, rollErr, c, claimErr, verdicts, verdictsErr, x)] = true
			for honest := range p.Parishes() {
				if !p.lies[honest] && x.Have[honest] < len(p.written[honest]) {
					t.Fatal(n, honest, x, p.written)
				}
			}
			if len(verdicts) > 0 {
				seen.add("verdicts")
			}
			if slices.Contains(p.lies, true) {
				seen.add("liars")
			}
		}
		if len(reports) != 1 {
			t.Fatal(reports)
		}
	})
	if seen.counts["verdicts"] < 5 || seen.counts["liars"] < 50 {
		t.Error(seen.counts)
	}
}

// eachRegister plays models, and calls test for the registers of their parishes.
func eachRegister(t *testing.T, seeds int, from int64, test func(t *testing.T, p *played, parish int, r api.Register)) {
	t.Helper()
	atOnce(t, seeds, func(t *testing.T, seed int64) {
		p := play(t, from+seed, seed%2 == 0, false, 90, nil)
		for n := range p.Parishes() {
			r, err := p.Register(n)
			if err != api.OK || register.Check(r) != api.OK {
				t.Fatal(r, err)
			}
			test(t, p, n, r)
		}
	})
}

// altered returns a mark to which a few thrown steps and cuts within a budget lead.
func (r thrower) altered(m api.Mark, b api.Budget) api.Mark {
	for _, e := range []*api.Ear{&m.Near, &m.Far} {
		l, _ := knife.Costs(*e, b)
		c := l[r.Intn(len(l))]
		*e = c.Ear
		b.Weather -= c.Weather
		b.Cuts -= c.Cuts
	}
	return m
}

// P0.1: a head whose ears have come from a mark in use has this mark among its candidates, and no other one.
func TestOneOwner(t *testing.T) {
	var seen tally
	eachRegister(t, 40, 6000, func(t *testing.T, p *played, _ int, r api.Register) {
		for range 20 {
			at, known := p.r.Intn(80), p.Day()-p.r.Intn(p.Day()+1)/2
			held, err := register.State(r, at, known)
			if err != api.OK {
				t.Fatal(err)
			}
			for _, h := range held {
				if h.Rests {
					continue
				}
				head := p.r.altered(h.Mark, r.Budget)
				ids, err := register.Candidates(r, head, h.Grazing, at, known)
				if !slices.Equal(ids, []int{h.Id}) || err != api.OK {
					t.Fatal(h, head, ids, err)
				}
				seen.add(fmt.Sprint(head == h.Mark))
			}
		}
	})
	if seen.counts["true"] < 100 || seen.counts["false"] < 100 {
		t.Error(seen.counts)
	}
}

// P0.2: of the admissions that a parish tries, just those are refused with ErrRefused that clash with a mark in use on the fold, and the refusal shows how.
func TestRefusedExactly(t *testing.T) {
	var seen tally
	eachRegister(t, 40, 7000, func(t *testing.T, p *played, parish int, r api.Register) {
		refused, err := p.Refused(parish)
		if err != api.OK {
			t.Fatal(err)
		}
		for _, e := range slices.Concat(r.Events, refused) {
			if e.Kind != api.AdmitE || e.Grazing >= r.Fell.Grazings {
				continue
			}
			before := r
			before.Events = r.Events[:e.No]
			held, _ := register.State(before, e.At, api.MaxDay)
			fold, _ := fell.Ever(r.Fell, e.Grazing)
			rival := slices.IndexFunc(held, func(h api.Held) bool {
				_, clash, _ := knife.Clash(e.Mark, h.Mark, r.Budget)
				return clash && !h.Rests && slices.Contains(fold, h.Grazing)
			})
			x, err := register.Try(before, e)
			if (err == api.ErrRefused) != (rival >= 0) || e.No < len(r.Events) && r.Events[e.No] == e && err != api.OK {
				t.Fatal(e, err, rival)
			}
			seen.add(fmt.Sprint(err))
			if err != api.ErrRefused {
				continue
			}
			is, err := register.CheckRefusal(before, e, x)
			if !is || err != api.OK || x.Id != held[rival].Id || knife.CheckWay(e.Mark, x.Shape, r.Budget, x.New) != api.OK || knife.CheckWay(held[rival].Mark, x.Shape, r.Budget, x.Old) != api.OK {
				t.Fatal(e, x, err)
			}
		}
	})
	if seen.counts["0"] < 100 || seen.counts["53"] < 100 {
		t.Error(seen.counts)
	}
}

// sheetOf returns the sheet of a line that wrote one.
func sheetOf(t *testing.T, line string, day int) api.Sheet {
	t.Helper()
	parts := strings.Split(line, " ; ")
	w := strings.Split(parts[0], " ")
	s := api.Sheet{Gathering: number(w[2]), Clerk: number(w[3]), Part: number(w[4]), Parts: number(w[5]), Grazing: number(w[6]), Day: day}
	for _, text := range parts[1:] {
		h, err := sheets.ParseHead(text)
		if err != api.OK {
			t.Fatal(line)
		}
		s.Heads = append(s.Heads, h)
	}
	return s
}

// P0.3: each sheet that an honest parish wrote is in the rolls of all, or in a conflict with the one that is there.
func TestSheetsAreKept(t *testing.T) {
	var seen tally
	atOnce(t, 60, func(t *testing.T, seed int64) {
		type sheet struct {
			parish int
			text   string
		}
		var written []sheet
		p := play(t, 8000+seed, seed%2 == 0, false, 90, func(p *played, line string, err api.Errno) {
			if strings.HasPrefix(line, "sheet") && err == api.OK {
				text, _ := sheets.Print(sheetOf(t, line, p.Day()))
				written = append(written, sheet{number(line[6:7]), text})
			}
		})
		for range 2 {
			doAll(t, p.Year, "sendall")
		}
		for n := range p.Parishes() {
			roll, conflicts, err := p.Roll(n)
			if err != api.OK {
				t.Fatal(err)
			}
			kept := map[string]string{}
			for _, s := range roll.Sheets {
				text, _ := sheets.Print(s)
				kept[text] = "roll"
			}
			for _, c := range conflicts {
				a, _ := sheets.Print(c.A)
				b, _ := sheets.Print(c.B)
				if kept[a] != "roll" || kept[b] != "" || a >= b || c.Key != (api.Sheetkey{Gathering: c.B.Gathering, Clerk: c.B.Clerk, Part: c.B.Part}) {
					t.Fatal(c, kept)
				}
				kept[b] = "conflict"
			}
			for _, s := range written {
				if kept[s.text] == "" && !p.lies[s.parish] {
					t.Fatal(s, kept)
				}
				seen.add(kept[s.text])
			}
		}
	})
	if seen.counts["roll"] < 100 || seen.counts["conflict"] < 50 {
		t.Error(seen.counts)
	}
}

// P0.4: a stray can go to a flock exactly if there is no reason against it, the verdicts say the same, and what strays bring is paid in full.
func TestReasons(t *testing.T) {
	var seen tally
	eachRegister(t, 60, 9000, func(t *testing.T, p *played, parish int, _ api.Register) {
		for gathering := range 2 {
			for wrong := range 4 {
				c, err := p.Claim(parish, gathering, wrong)
				if err != api.OK || len(c.Strays) == 0 {
					continue
				}
				verdicts, decided := p.Verdicts(parish, gathering, wrong)
				for i := range c.Strays {
					var flocks []int
					for flock := range c.Missing {
						x, why, err := stray.Reason(c, i, flock)
						is, err2 := stray.Possible(c, i, flock)
						if why == is || why && stray.CheckReason(c, i, flock, x) != api.OK || err != api.OK || err2 != api.OK {
							t.Fatal(c, i, flock, why, is)
						}
						if is {
							flocks = append(flocks, flock)
						}
					}
					if (decided == api.OK) != (len(flocks) > 0) || decided == api.OK && !slices.Equal(verdicts[i].Flocks, flocks) {
						t.Fatal(c, i, flocks, verdicts, decided)
					}
				}
				seen.add(fmt.Sprint("verdicts ", decided))
				output, err := p.Do(fmt.Sprint("pay ", parish, " ", gathering, " ", wrong, " 100"))
				sum := 0
				for _, line := range strings.Split(output, "\n") {
					if flock, n, ok := strings.Cut(line, " "); ok && number(flock) < len(c.Missing) {
						sum += number(n)
					}
				}
				if err != decided || err == api.OK && sum != 100*len(c.Strays) {
					t.Fatal(c, output, err, decided)
				}
			}
		}
	})
	if seen.counts["verdicts 0"] < 20 || seen.counts["verdicts 71"] < 20 {
		t.Error(seen.counts)
	}
}

// P0.5: two books that have sent to each other have the same entries, in whatever order these came.
func TestTwoBooks(t *testing.T) {
	var seen tally
	atOnce(t, 60, func(t *testing.T, seed int64) {
		p := play(t, 10000+seed, true, seed%2 == 0, 60, nil)
		p.openAll(t)
		for range 10 {
			a, b := p.r.Intn(p.Parishes()), p.r.Intn(p.Parishes())
			if a == b {
				continue
			}
			doAll(t, p.Year, fmt.Sprint("send ", a, " ", b), fmt.Sprint("send ", b, " ", a))
			x, _ := p.Tally(a)
			y, _ := p.Tally(b)
			if fmt.Sprint(x) != fmt.Sprint(y) {
				t.Fatal(a, b, x, y)
			}
			check(t, p.Year, fmt.Sprint("agree ", a, " ", b), "yes", api.OK)
			proofs, _ := p.Do(fmt.Sprint("proofs ", a))
			check(t, p.Year, fmt.Sprint("proofs ", b), proofs, api.OK)
			seen.add(fmt.Sprint(proofs != ""))
		}
	})
	if seen.counts["true"] < 50 || seen.counts["false"] < 20 {
		t.Error(seen.counts)
	}
}

// The examples 6 to 10 of the whole system.
func TestWholeExamples(t *testing.T) {
	// 6: a mark that clashes only with a mark on another fold is admitted.
	y := modelOf(t, "grazings 2", "begin 2 9 1 0 7", "write 0 admit 0 1 0 "+whole, "write 0 admit 0 2 1 "+notch)
	check(t, y, "refused 0", "0", api.OK)
	y = modelOf(t, "grazings 2", "gate 0 1 5 6", "begin 2 9 1 0 7", "write 0 admit 0 1 0 "+whole, "write 0 admit 0 2 1 "+notch)
	check(t, y, "refused 0", "1", api.OK)
	// 7: a sheet that comes twice counts once.
	doAll(t, y, "write 0 miss 3 1 1", "sheet 0 3 1 0 1 0 ; ewe 0 0 "+whole, "sheet 0 3 1 0 1 0 ; ewe 0 0 "+whole, "sheet 1 3 1 0 1 0 ; ewe 0 0 "+whole, "sendall")
	check(t, y, "verdicts 1 3 0", "1", api.OK)
	// 8: two strays that can each go to the flocks 0 and 1, of which flock 0 misses one sheep and flock 1 misses none.
	y = modelOf(t, "grazings 1", "begin 1 9 0 0 7", "write 0 admit 0 0 0 "+whole, "write 0 admit 0 1 0 w.b......... w...........", "write 0 miss 0 0 1", "sheet 0 0 0 0 1 0 ; ewe 0 0 "+notch+" ; ewe 0 0 "+notch)
	checkClaim(t, y, 0, 2, []int{1, 0}, "0:1 1:1", "0:1 1:1")
	check(t, y, "verdicts 0 0 2", "", api.ErrNone)
	// 9: a parish that seals two different entries with the number 3 is convicted; its entries 0 to 2 still count.
	y = modelOf(t, "grazings 1", "begin 3 9 0 0 7", "write 2 admit 0 0 0 "+whole, "write 2 admit 0 1 0 "+key, "write 2 admit 0 2 0 "+forked, "write 2 admit 0 3 0 "+holed, "write 2 rest 0 2.0", "send 2 0", "forge 2 0 3 miss 0 0 0", "sendall")
	for p := range 3 {
		check(t, y, fmt.Sprint("proofs ", p), "2", api.OK)
		if x, _ := y.Tally(p); !slices.Equal(x.Have, []int{0, 0, 3}) {
			t.Error(x)
		}
		check(t, y, fmt.Sprint("marks ", p, " 0"), "0 0 0 in use "+whole+"\n1 1 0 in use "+key+"\n2 2 0 in use "+forked, api.OK)
	}
	// 10: after send between all parishes, owner prints the same for each of them.
	y = modelOf(t, "grazings 1", "begin 3 9 0 0 7", "write 2 admit 0 0 0 "+whole, "sendall", "day 1", "write 1 sell 4 2.0 5", "write 0 sell 4 2.0 6")
	for p, flock := range []string{"6", "5", "0"} {
		check(t, y, fmt.Sprint("owner ", p, " 2.0 4"), flock, api.OK)
	}
	for range 2 {
		for p := range 3 {
			for q := range 3 {
				if p != q {
					doAll(t, y, fmt.Sprint("send ", p, " ", q))
				}
			}
		}
	}
	for p := range 3 {
		check(t, y, fmt.Sprint("owner ", p, " 2.0 3"), "0", api.OK)
		check(t, y, fmt.Sprint("owner ", p, " 2.0 4"), "5", api.OK)
	}
}

// The examples 1 to 5 of the whole system.
func TestLayerExamples(t *testing.T) {
	if code, err := ear.Code(api.Ear{}); ear.Count() != 44176 || code != 0 || err != api.OK {
		t.Error(code, err)
	}
	for n := range ear.Count() {
		e, _ := ear.FromCode(n)
		frozen := e
		frozen.Tip, frozen.Upper[3], frozen.Lower[3] = api.Cropped, api.Uncut, api.Uncut
		if got, err := weather.Apply(e, api.Step{Kind: api.FrostW}); e.Tip != api.Cropped && (got != frozen || err != api.OK) {
			t.Fatal(e, got, err)
		}
	}
	forkedEar := api.Ear{Tip: api.Forked}
	if n, ok, err := knife.Least(api.Ear{}, forkedEar); n != 1 || !ok || err != api.OK {
		t.Error(n, ok, err)
	}
	if is, err := knife.Can(forkedEar, api.Ear{}); is || err != api.OK {
		t.Error(is, err)
	}
	near, far, _ := strings.Cut(notch, " ")
	if m, ok, err := knife.Clash(api.Mark{}, markOf(near, far), api.Budget{Weather: 1}); m != (api.Mark{}) || !ok || err != api.OK {
		t.Error(m, ok, err)
	}
	f := api.Fell{Grazings: 2, Gates: []api.Gate{{A: 0, B: 1, From: 100, To: 200}}}
	if day, ok, err := fell.Earliest(f, 0, 1, 250); day != 460 || !ok || err != api.OK {
		t.Error(day, ok, err)
	}
}
