package year_test

import (
	"fmt"
	"sort"
	"strconv"
	"strings"
	"testing"

	"earmark/api"
	"earmark/book"
	"earmark/ear"
	"earmark/fell"
	"earmark/knife"
	"earmark/register"
	"earmark/sheets"
	"earmark/stray"
	"earmark/year"
)

// plain is a plain reading of the chapter: bodies are read where they are needed, events are appended one by one, and whatever is asked for is made anew. What registers, sheets, claims and books do is taken from their packages.
type plain struct {
	fell    api.Fell
	day     int
	budget  api.Budget
	seed    uint64
	sticks  [][]api.Stick
	disks   []*book.Disk
	books   []*book.Book
	honest  []bool
	entries int
}

func number(word string) int {
	n, err := strconv.Atoi(word)
	if err != nil {
		panic(word)
	}
	return n
}

func markOf(near, far string) api.Mark {
	a, err := ear.ParseShort(near)
	b, other := ear.ParseShort(far)
	if err != api.OK || other != api.OK {
		panic(near + far)
	}
	return api.Mark{Near: a, Far: b}
}

// dated is what counts of an entry, with the words of the first line of its body.
type dated struct {
	entry api.Entry
	day   int
	words []string
}

func (d dated) name() string { return fmt.Sprint(d.entry.Parish, ".", d.entry.No) }

// inOrder returns entries by the day on which they are written, then by parish and number.
func inOrder(l []api.Entry) []dated {
	var all []dated
	for _, e := range l {
		words := strings.Split(strings.Split(e.Body, "\n")[0], " ")
		all = append(all, dated{e, number(words[0]), words[1:]})
	}
	sort.Slice(all, func(i, j int) bool {
		a, b := all[i], all[j]
		if a.day != b.day {
			return a.day < b.day
		}
		if a.entry.Parish != b.entry.Parish {
			return a.entry.Parish < b.entry.Parish
		}
		return a.entry.No < b.entry.No
	})
	return all
}

// eventOf returns the event that the words of a body say, if marks have these ids.
func eventOf(w []string, ids map[string]int) api.Event {
	e := api.Event{At: number(w[1])}
	id := func() int {
		if id, ok := ids[w[2]]; ok {
			return id
		}
		return -1
	}
	switch w[0] {
	case "admit":
		e.Kind, e.Flock, e.Grazing, e.Mark = api.AdmitE, number(w[2]), number(w[3]), markOf(w[4], w[5])
	case "sell":
		e.Kind, e.Id, e.Flock = api.SellE, id(), number(w[3])
	case "split":
		e.Kind, e.Id, e.Flock, e.Mark = api.SplitE, id(), number(w[3]), markOf(w[4], w[5])
	case "rest":
		e.Kind, e.Id = api.RestE, id()
	case "resume":
		e.Kind, e.Id = api.ResumeE, id()
	case "move":
		e.Kind, e.Id, e.Grazing = api.MoveE, id(), number(w[3])
	default:
		panic(w[0])
	}
	return e
}

// registerOf returns the register of entries, the refused events, and the ids of the marks that entries brought.
func (m *plain) registerOf(l []api.Entry) (api.Register, []api.Event, map[string]int) {
	r, err := register.New(m.fell, m.budget)
	if err != api.OK {
		panic(err)
	}
	var refused []api.Event
	ids := map[string]int{}
	for _, d := range inOrder(l) {
		if d.words[0] == "sheet" || d.words[0] == "miss" {
			continue
		}
		e := eventOf(d.words, ids)
		e.No, e.Known = len(r.Events), d.day
		longer, err := register.Append(r, e)
		if err != api.OK {
			refused = append(refused, e)
			continue
		}
		r = longer
		if e.Kind == api.AdmitE || e.Kind == api.SplitE {
			ids[d.name()] = e.No
		}
	}
	return r, refused, ids
}

// roll returns the roll of a parish.
func (m *plain) roll(p int) (api.Roll, []api.Conflict, api.Errno) {
	var l []api.Sheet
	for _, d := range inOrder(m.books[p].All()) {
		if d.words[0] == "sheet" {
			_, text, _ := strings.Cut(d.entry.Body, "\n")
			s, _, err := sheets.Parse(text)
			if err != api.OK {
				panic(d.entry.Body)
			}
			l = append(l, s)
		}
	}
	return sheets.Merge(l)
}

func (m *plain) claim(p, gathering, wrong int) (api.Claim, api.Errno) {
	roll, _, err := m.roll(p)
	if err != api.OK {
		return api.Claim{}, err
	}
	all, _ := sheets.Sightings(roll)
	var l []api.Sighting
	for _, x := range all {
		if x.Key.Gathering == gathering && x.Head.Paint == 0 {
			l = append(l, x)
		}
	}
	r, _, _ := m.registerOf(m.books[p].All())
	greatest := -1
	missing := map[int]int{}
	for _, d := range inOrder(m.books[p].All()) {
		if d.words[0] == "miss" {
			greatest = max(greatest, number(d.words[2]))
			if number(d.words[1]) == gathering {
				missing[number(d.words[2])] = number(d.words[3])
			}
		}
	}
	held, _ := register.State(r, m.day, m.day)
	for _, h := range held {
		if !h.Rests {
			greatest = max(greatest, h.Flock)
		}
	}
	var counts []int
	for flock := 0; flock <= greatest; flock++ {
		counts = append(counts, missing[flock])
	}
	return stray.Build(r, counts, l, m.day, m.day, wrong)
}

func (m *plain) isOpen(p int) bool { return p < len(m.books) && m.books[p] != nil }

// note closes a book that has returned that the power is off.
func (m *plain) note(p int, err api.Errno) {
	if err == api.ErrDown {
		m.books[p] = nil
	}
}

func (m *plain) write(p int, body string) (string, api.Errno) {
	own, _ := m.books[p].Entries(p)
	e := api.Entry{Parish: p, No: len(own), Body: body}
	if e.No > 0 {
		before, _ := book.Encode(own[e.No-1])
		e.Prev = book.Hash(before)
	}
	e, err := book.Seal(m.seed, e)
	if err != api.OK {
		return "", err
	}
	if err := m.books[p].Add(e); err != api.OK {
		m.note(p, err)
		return "", err
	}
	return fmt.Sprint(p, ".", e.No), api.OK
}

func (m *plain) send(p, q int) (int, api.Errno) {
	wanted, err := m.books[p].Wanted(m.books[q].Tally())
	if err != api.OK {
		panic(err)
	}
	sum, err := m.books[q].Take(wanted)
	for _, proof := range m.books[p].Proofs() {
		if err == api.OK {
			var n int
			n, err = m.books[q].Take([]api.Entry{proof.A, proof.B})
			sum += n
		}
	}
	m.note(q, err)
	return sum, err
}

func (m *plain) sendAll() (int, api.Errno) {
	sum := 0
	for {
		before := sum
		for p := range m.books {
			for q := range m.books {
				if p != q && m.isOpen(p) && m.isOpen(q) {
					n, err := m.send(p, q)
					if err != api.OK {
						return 0, err
					}
					sum += n
				}
			}
		}
		if sum == before {
			return sum, api.OK
		}
	}
}

func (m *plain) forge(p, q, no int, form string) (int, api.Errno) {
	own, _ := m.books[p].Entries(p)
	if no >= len(own) {
		return 0, api.ErrArg
	}
	e := api.Entry{Parish: p, No: no, Prev: own[no].Prev, Body: fmt.Sprint(m.day, " ", form)}
	e, err := book.Seal(m.seed, e)
	if err != api.OK {
		panic(err)
	}
	m.honest[p] = false
	n, err := m.books[q].Take([]api.Entry{e})
	m.note(q, err)
	return n, err
}

func (m *plain) begin(w []string) api.Errno {
	if err := fell.Check(m.fell); err != api.OK {
		return err
	}
	budget := api.Budget{Weather: number(w[3]), Cuts: number(w[4])}
	if err := knife.CheckBudget(budget); err != api.OK {
		return err
	}
	m.budget, m.seed = budget, uint64(number(w[5]))
	for p := range number(w[1]) {
		m.sticks = append(m.sticks, nil)
		for no := range number(w[2]) {
			s, _ := book.MakeStick(m.seed, p, no)
			m.sticks[p] = append(m.sticks[p], s)
		}
	}
	for range m.sticks {
		d, _ := book.NewDisk(512)
		b, err := book.Make(d, m.sticks)
		if err != api.OK {
			panic(err)
		}
		m.disks, m.books, m.honest = append(m.disks, d), append(m.books, b), append(m.honest, true)
	}
	return api.OK
}

func (m *plain) agree(p, q int) bool {
	r, _, _ := m.registerOf(m.books[p].All())
	s, _, _ := m.registerOf(m.books[q].All())
	a, b, err := m.roll(p)
	c, d, other := m.roll(q)
	return fmt.Sprint(r, a, b, err) == fmt.Sprint(s, c, d, other)
}

func (m *plain) truth() api.Register {
	if len(m.books) == 0 {
		return api.Register{}
	}
	var l []api.Entry
	for p := range m.books {
		if m.isOpen(p) && m.honest[p] {
			own, _ := m.books[p].Entries(p)
			l = append(l, own...)
		}
	}
	r, _, _ := m.registerOf(l)
	return r
}

// isPossible reports whether a command is possible now.
func (m *plain) isPossible(w []string) bool {
	began := len(m.books) > 0
	switch w[0] {
	case "grazings", "gate", "begin":
		return !began
	case "day", "sendall":
		return began
	case "open":
		return number(w[1]) < len(m.books)
	case "send", "forge":
		return w[1] != w[2] && m.isOpen(number(w[1])) && m.isOpen(number(w[2]))
	case "agree":
		return m.isOpen(number(w[1])) && m.isOpen(number(w[2]))
	}
	return m.isOpen(number(w[1]))
}

// do does a line, which is a command, and returns what it prints.
func (m *plain) do(line string) (string, api.Errno) {
	w := strings.Split(line, " ")
	if !m.isPossible(w) {
		return "", api.ErrState
	}
	output, err := m.act(w)
	if err != api.OK {
		return "", err
	}
	return output, api.OK
}

func (m *plain) act(w []string) (string, api.Errno) {
	n := func(i int) int { return number(w[i]) }
	switch w[0] {
	case "grazings":
		m.fell = api.Fell{Grazings: n(1)}
		return "", api.OK
	case "gate":
		f := m.fell
		f.Gates = append(append([]api.Gate{}, f.Gates...), api.Gate{A: n(1), B: n(2), From: n(3), To: n(4)})
		err := fell.Check(f)
		if err == api.OK {
			m.fell = f
		}
		return "", err
	case "begin":
		return "", m.begin(w)
	case "day":
		if m.day+n(1) > api.MaxDay {
			return "", api.ErrArg
		}
		m.day += n(1)
		return fmt.Sprint(m.day), api.OK
	case "write":
		return m.write(n(1), fmt.Sprint(m.day, " ", strings.Join(w[2:], " ")))
	case "sheet":
		text := fmt.Sprintln("sheet", n(2), n(3), n(4), n(5), m.day, n(6)) + strings.ReplaceAll(strings.Join(w[7:], " ")+" ; ", " ; ", "\n")
		text = strings.TrimSuffix(strings.Replace(text, "\n; ", "\n", 1), "\n")
		if len(w) > 7 {
			text += "\n"
		}
		if _, _, err := sheets.Parse(text); err != api.OK {
			return "", api.ErrSheet
		}
		return m.write(n(1), fmt.Sprint(m.day, " sheet\n", text))
	case "forge":
		k, err := m.forge(n(1), n(2), n(3), strings.Join(w[4:], " "))
		return fmt.Sprint(k), err
	case "send":
		k, err := m.send(n(1), n(2))
		return fmt.Sprint(k), err
	case "sendall":
		k, err := m.sendAll()
		return fmt.Sprint(k), err
	case "crash":
		m.disks[n(1)].Arm(n(2))
		return "", api.OK
	case "open":
		var keep []byte
		for _, digit := range []byte(w[2]) {
			keep = append(keep, (digit-'0')*8)
		}
		m.disks[n(1)].Restart(string(keep))
		b, err := book.Open(m.disks[n(1)], m.sticks)
		m.books[n(1)] = b
		return "", err
	}
	return m.ask(w)
}

func (m *plain) ask(w []string) (string, api.Errno) {
	n := func(i int) int { return number(w[i]) }
	r, refused, ids := m.registerOf(m.books[n(1)].All())
	roll, _, rollErr := m.roll(n(1))
	text := ""
	switch w[0] {
	case "owner":
		id, ok := ids[w[2]]
		if !ok {
			return "", api.ErrUnknown
		}
		h, err := register.Get(r, id, n(3), m.day)
		return fmt.Sprint(h.Flock), err
	case "marks":
		l, err := register.State(r, n(2), m.day)
		for _, h := range l {
			near, _ := ear.Short(h.Mark.Near)
			far, _ := ear.Short(h.Mark.Far)
			text += fmt.Sprintln(h.Id, h.Flock, h.Grazing, map[bool]string{true: "rests", false: "in use"}[h.Rests], near, far)
		}
		return strings.TrimSuffix(text, "\n"), err
	case "refused":
		return fmt.Sprint(len(refused)), api.OK
	case "missing":
		l, err := sheets.Missing(roll)
		for _, k := range l {
			text += fmt.Sprintln(k.Gathering, k.Clerk, k.Part)
		}
		return strings.TrimSuffix(text, "\n"), max(rollErr, err)
	case "verdicts":
		c, err := m.claim(n(1), n(2), n(3))
		if err != api.OK {
			return "", err
		}
		l, err := stray.Decide(c)
		var lines []string
		for _, v := range l {
			lines = append(lines, strings.Trim(fmt.Sprint(v.Flocks), "[]"))
		}
		return strings.Join(lines, "\n"), err
	case "pay":
		c, err := m.claim(n(1), n(2), n(3))
		if err != api.OK {
			return "", err
		}
		var prices []int
		for range c.Strays {
			prices = append(prices, n(4))
		}
		l, err := stray.Pay(c, prices)
		for flock, k := range l {
			if k != 0 {
				text += fmt.Sprintln(flock, k)
			}
		}
		return strings.TrimSuffix(text, "\n"), err
	case "proofs":
		for _, p := range m.books[n(1)].Proofs() {
			text += fmt.Sprint(p.A.Parish, " ")
		}
		return strings.TrimSuffix(text, " "), api.OK
	case "agree":
		return map[bool]string{true: "yes", false: "no"}[m.agree(n(1), n(2))], api.OK
	}
	panic(w[0])
}

// plainReport returns all that the methods of a model have to report, as a text. Parishes from -1 to 8 are asked for.
func (m *plain) report(gathering, wrong int) string {
	text := fmt.Sprintln("day", m.day, len(m.books), m.fell, m.truth())
	for p := -1; p <= len(m.books); p++ {
		err := api.OK
		if p < 0 || p >= len(m.books) {
			err = api.ErrArg
		} else if m.books[p] == nil {
			err = api.ErrState
		}
		if err != api.OK {
			text += fmt.Sprintln(p, api.Register{}, err, []api.Event{}, err, api.Roll{}, []api.Conflict{}, err, api.Tally{}, err, []api.Proof{}, err, api.Claim{}, err, []api.Verdict{}, err, false, err)
			continue
		}
		r, refused, _ := m.registerOf(m.books[p].All())
		roll, conflicts, rollErr := m.roll(p)
		c, claimErr := m.claim(p, gathering, wrong)
		var verdicts []api.Verdict
		verdictsErr := claimErr
		if claimErr == api.OK {
			verdicts, verdictsErr = stray.Decide(c)
		}
		first := 0
		for !m.isOpen(first) {
			first++
		}
		text += fmt.Sprintln(p, r, api.OK, refused, api.OK, roll, conflicts, rollErr, m.books[p].Tally(), api.OK, m.books[p].Proofs(), api.OK, c, claimErr, verdicts, verdictsErr, m.agree(first, p), api.OK)
	}
	return text
}

// report returns the same of a model of the package.
func report(y *year.Year, gathering, wrong int) string {
	text := fmt.Sprintln("day", y.Day(), y.Parishes(), y.Fell(), y.Truth())
	first := 0
	for first < y.Parishes() {
		if _, err := y.Tally(first); err == api.OK {
			break
		}
		first++
	}
	for p := -1; p <= y.Parishes(); p++ {
		r, err1 := y.Register(p)
		refused, err2 := y.Refused(p)
		roll, conflicts, err3 := y.Roll(p)
		tally, err4 := y.Tally(p)
		proofs, err5 := y.Proofs(p)
		c, err6 := y.Claim(p, gathering, wrong)
		verdicts, err7 := y.Verdicts(p, gathering, wrong)
		is, err8 := y.Agree(first, p)
		if first == y.Parishes() {
			// No book is open, so that there is none to compare with.
			is, err8 = y.Agree(p, p)
		}
		text += fmt.Sprintln(p, r, err1, refused, err2, roll, conflicts, err3, tally, err4, proofs, err5, c, err6, verdicts, err7, is, err8)
	}
	return text
}

// modelOf returns a model in which these commands have been done, all with OK.
func modelOf(t *testing.T, lines ...string) *year.Year {
	t.Helper()
	y := year.New()
	doAll(t, y, lines...)
	return y
}

// doAll does commands, all of which return OK.
func doAll(t *testing.T, y *year.Year, lines ...string) {
	t.Helper()
	for _, line := range lines {
		if _, err := y.Do(line); err != api.OK {
			t.Fatalf("%q: %d", line, err)
		}
	}
}

// check checks what a command prints and returns.
func check(t *testing.T, y *year.Year, line, want string, wantErr api.Errno) {
	t.Helper()
	if output, err := y.Do(line); output != want || err != wantErr {
		t.Errorf("%q: %q %d, not %q %d", line, output, err, want, wantErr)
	}
}
