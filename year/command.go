package year

import "earmark/api"

const (
	// maxPass is how many days can pass at once.
	maxPass = 100000
	// maxCalls is after how many writes and syncs the power goes off, at the latest.
	maxCalls = 1000
	maxSeed  = 1 << 62
)

// command is what a line tells a model to do.
type command interface {
	// needs returns the parishes whose books have to be open for it.
	needs() []int
}

// Parts of commands: the parishes that they are about.
type (
	none struct{}
	one  struct{ p int }
	two  struct{ p, q int }
)

func (none) needs() []int  { return nil }
func (c one) needs() []int { return []int{c.p} }
func (c two) needs() []int { return []int{c.p, c.q} }

type (
	grazingsCommand struct {
		none
		n int
	}
	gateCommand struct {
		none
		gate api.Gate
	}
	beginCommand struct {
		none
		parishes, entries int
		budget            api.Budget
		seed              int
	}
	dayCommand struct {
		none
		n int
	}
	writeCommand struct {
		one
		form string
	}
	sheetCommand struct {
		one
		sheet api.Sheet
	}
	forgeCommand struct {
		two
		no   int
		form string
	}
	sendCommand    struct{ two }
	sendallCommand struct{ none }
	crashCommand   struct {
		one
		n int
	}
	// openCommand is about a parish whose book need not be open.
	openCommand struct {
		none
		p    int
		keep string
	}
	ownerCommand struct {
		one
		mark name
		at   int
	}
	marksCommand struct {
		one
		at int
	}
	refusedCommand  struct{ one }
	missingCommand  struct{ one }
	verdictsCommand struct {
		one
		gathering, wrong int
	}
	payCommand struct {
		one
		gathering, wrong, price int
	}
	proofsCommand struct{ one }
	agreeCommand  struct{ two }
)

// parse returns the command that a line is, and whether it is one.
func parse(line string) (command, bool) {
	r := readerOf(line)
	c := r.command()
	return c, r.done()
}

// command reads a command.
func (r *reader) command() command {
	switch word := r.word(); word {
	case "grazings":
		return grazingsCommand{n: r.number(1, api.MaxGrazings)}
	case "gate":
		return gateCommand{gate: api.Gate{A: r.grazing(), B: r.grazing(), From: r.yearDay(), To: r.yearDay()}}
	case "begin":
		return beginCommand{parishes: r.number(1, api.MaxParishes), entries: r.number(1, api.MaxEntries), budget: r.budget(), seed: r.number(0, maxSeed)}
	case "day":
		return dayCommand{n: r.number(1, maxPass)}
	case "sendall":
		return sendallCommand{}
	case "open":
		return openCommand{p: r.parish(), keep: r.keep()}
	case "forge":
		return forgeCommand{two: r.two(), no: r.entryNumber(), form: r.form()}
	case "send":
		return sendCommand{r.two()}
	case "agree":
		return agreeCommand{r.two()}
	default:
		return r.commandOfOne(word)
	}
}

// commandOfOne reads what is behind the word of a command that is about one parish, whose book has to be open.
func (r *reader) commandOfOne(word string) command {
	p := one{r.parish()}
	switch word {
	case "write":
		return writeCommand{p, r.form()}
	case sheetWord:
		return sheetCommand{p, r.sheet()}
	case "crash":
		return crashCommand{p, r.number(1, maxCalls)}
	case "owner":
		return ownerCommand{one: p, mark: r.name(), at: r.day()}
	case "marks":
		return marksCommand{p, r.day()}
	case "refused":
		return refusedCommand{p}
	case "missing":
		return missingCommand{p}
	case "verdicts":
		return verdictsCommand{one: p, gathering: r.id(), wrong: r.wrong()}
	case "pay":
		return payCommand{one: p, gathering: r.id(), wrong: r.wrong(), price: r.number(0, api.MaxPrice)}
	case "proofs":
		return proofsCommand{p}
	}
	r.failed = true
	return nil
}

func (r *reader) two() two { return two{r.parish(), r.parish()} }

func (r *reader) budget() api.Budget {
	return api.Budget{Weather: r.number(0, api.MaxChanges), Cuts: r.number(0, api.MaxChanges)}
}

// sheet reads a sheet but for its day, which is the rest of the line.
func (r *reader) sheet() api.Sheet {
	return api.Sheet{
		Gathering: r.id(),
		Clerk:     r.id(),
		Part:      r.number(0, api.MaxParts-1),
		Parts:     r.number(1, api.MaxParts),
		Grazing:   r.grazing(),
		Heads:     r.heads(),
	}
}
