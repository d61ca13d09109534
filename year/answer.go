package year

import (
	"slices"
	"strconv"
	"strings"

	"earmark/api"
	"earmark/ear"
	"earmark/register"
	"earmark/sheets"
	"earmark/stray"
)

// answer does a command that only asks, which is possible.
func (y *Year) answer(c command) (string, api.Errno) {
	switch c := c.(type) {
	case ownerCommand:
		return printed(y.owner(c))
	case marksCommand:
		held, err := register.State(y.ledger(c.p).register, c.at, y.day)
		return linesOf(held, heldLine), err
	case refusedCommand:
		return strconv.Itoa(len(y.ledger(c.p).refused)), api.OK
	case missingCommand:
		return y.printMissing(c.p)
	case verdictsCommand:
		l, err := y.Verdicts(c.p, c.gathering, c.wrong)
		return linesOf(l, func(v api.Verdict) string { return numbersLine(v.Flocks...) }), err
	case payCommand:
		return y.printPay(c)
	case proofsCommand:
		var l []int
		for _, p := range y.parishes[c.p].book.Proofs() {
			l = append(l, p.A.Parish)
		}
		return numbersLine(l...), api.OK
	case agreeCommand:
		if y.agree(c.p, c.q) {
			return "yes", api.OK
		}
		return "no", api.OK
	}
	return "", api.ErrCommand
}

// linesOf returns the line of each element of l, with line feeds between.
func linesOf[E any](l []E, line func(E) string) string {
	lines := make([]string, len(l))
	for i, x := range l {
		lines[i] = line(x)
	}
	return strings.Join(lines, lineEnd)
}

func numbersLine(l ...int) string {
	words := make([]string, len(l))
	for i, n := range l {
		words[i] = strconv.Itoa(n)
	}
	return strings.Join(words, blank)
}

// heldLine returns what is printed of a mark.
func heldLine(h api.Held) string {
	use := "in use"
	if h.Rests {
		use = "rests"
	}
	near, _ := ear.Short(h.Mark.Near)
	far, _ := ear.Short(h.Mark.Far)
	return strings.Join([]string{numbersLine(h.Id, h.Flock, h.Grazing), use, near, far}, blank)
}

// owner returns the flock that has a mark on a day, as known on the present one.
func (y *Year) owner(c ownerCommand) (int, api.Errno) {
	g := y.ledger(c.p)
	id := g.id(c.mark)
	if id == noId {
		return 0, api.ErrUnknown
	}
	h, err := register.Get(g.register, id, c.at, y.day)
	return h.Flock, err
}

// printMissing returns the keys of the sheets that a parish misses.
func (y *Year) printMissing(parish int) (string, api.Errno) {
	roll, _, err := y.view(parish).roll()
	if err != api.OK {
		return "", err
	}
	l, err := sheets.Missing(roll)
	return linesOf(l, func(k api.Sheetkey) string { return numbersLine(k.Gathering, k.Clerk, k.Part) }), err
}

// printPay returns what each flock gets that gets something, if each stray brings the same price.
func (y *Year) printPay(c payCommand) (string, api.Errno) {
	claim, err := y.claim(c.p, c.gathering, c.wrong)
	if err != api.OK {
		return "", err
	}
	paid, err := stray.Pay(claim, slices.Repeat([]int{c.price}, len(claim.Strays)))
	var lines []string
	for flock, n := range paid {
		if n > 0 {
			lines = append(lines, numbersLine(flock, n))
		}
	}
	return strings.Join(lines, lineEnd), err
}
