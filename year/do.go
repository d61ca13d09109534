package year

import (
	"cmp"
	"slices"
	"strconv"

	"earmark/api"
	"earmark/fell"
	"earmark/knife"
	"earmark/sheets"
)

// permits reports whether a command is possible now.
func (y *Year) permits(c command) bool {
	for _, p := range c.needs() {
		if !y.isOpen(p) {
			return false
		}
	}
	switch c := c.(type) {
	case grazingsCommand, gateCommand, beginCommand:
		return !y.hasBegun()
	case openCommand:
		return y.has(c.p)
	case forgeCommand:
		return c.p != c.q
	case sendCommand:
		return c.p != c.q
	}
	return y.hasBegun()
}

// do does a command that is possible, and returns what it prints.
func (y *Year) do(c command) (string, api.Errno) {
	switch c := c.(type) {
	case grazingsCommand:
		y.fell = api.Fell{Grazings: c.n}
		return "", api.OK
	case gateCommand:
		return "", y.addGate(c.gate)
	case beginCommand:
		return "", y.begin(c)
	case dayCommand:
		return printed(y.pass(c.n))
	case writeCommand:
		return printedName(y.write(c.p, bodyOf(y.day, c.form)))
	case sheetCommand:
		return y.writeSheet(c)
	case forgeCommand:
		return printed(y.forge(c))
	case sendCommand:
		return printed(y.send(c.p, c.q))
	case sendallCommand:
		return printed(y.sendAll())
	case crashCommand:
		y.parishes[c.p].disk.Arm(c.n)
		return "", api.OK
	case openCommand:
		return "", y.parishes[c.p].reopen(c.keep, y.sticks)
	}
	return y.answer(c)
}

// printed returns a number as a text; none with an error.
func printed(n int, err api.Errno) (string, api.Errno) {
	if err != api.OK {
		return "", err
	}
	return strconv.Itoa(n), api.OK
}

// printedName returns the name of an entry as a text; none with an error.
func printedName(n name, err api.Errno) (string, api.Errno) {
	if err != api.OK {
		return "", err
	}
	return n.text(), api.OK
}

// addGate adds a gate to the fell.
func (y *Year) addGate(g api.Gate) api.Errno {
	f := y.fell
	f.Gates = append(slices.Clone(f.Gates), g)
	err := fell.Check(f)
	if err == api.OK {
		y.fell = f
	}
	return err
}

// begin gives the model its parishes, with empty books.
func (y *Year) begin(c beginCommand) api.Errno {
	if err := cmp.Or(fell.Check(y.fell), knife.CheckBudget(c.budget)); err != api.OK {
		return err
	}
	seed := uint64(c.seed)
	sticks := sticksOf(seed, c.parishes, c.entries)
	var parishes []parish
	for range c.parishes {
		p, err := newParish(sticks)
		if err != api.OK {
			return err
		}
		parishes = append(parishes, p)
	}
	y.budget, y.seed, y.sticks, y.parishes = c.budget, seed, sticks, parishes
	return api.OK
}

// pass lets days pass, and returns the day that comes then.
func (y *Year) pass(days int) (int, api.Errno) {
	if y.day+days > api.MaxDay {
		return 0, api.ErrArg
	}
	y.day += days
	return y.day, api.OK
}

// writeSheet has a parish write a sheet of the present day.
func (y *Year) writeSheet(c sheetCommand) (string, api.Errno) {
	s := c.sheet
	s.Day = y.day
	text, err := sheets.Print(s)
	if err != api.OK {
		return "", err
	}
	return printedName(y.write(c.p, sheetBody(y.day, text)))
}
