package year

import (
	"strconv"
	"strings"

	"earmark/api"
	"earmark/sheets"
)

const (
	lineEnd   = "\n"
	point     = "."
	sheetWord = "sheet"
)

// name is what an entry is called by: its parish and its number.
type name struct {
	parish, no int
}

func (n name) text() string { return strconv.Itoa(n.parish) + point + strconv.Itoa(n.no) }

// deed is an event as an entry says it: what only a register can tell is missing, the number of the event and the id of the mark that it is about. This mark is named by the entry that brought it.
type deed struct {
	kind, at       int
	about          name
	flock, grazing int
	mark           api.Mark
}

// count is how many sheep a flock misses at a gathering.
type count struct {
	gathering, flock, missing int
}

// statement is what a body says: a deed, a count or a sheet.
type statement any

// bodyOf returns the body that says an event or a count.
func bodyOf(day int, form string) string { return strconv.Itoa(day) + blank + form }

// sheetBody returns the body that says a sheet with a text.
func sheetBody(day int, text string) string {
	return strconv.Itoa(day) + blank + sheetWord + lineEnd + text
}

// readBody returns the day on which a body is written, what it says, and whether it means anything. Only that of a sheet has more than one line.
func readBody(body string) (int, statement, bool) {
	line, rest, isLong := strings.Cut(body, lineEnd)
	r := readerOf(line)
	day := r.day()
	if !isLong {
		says := r.statement()
		return day, says, r.done()
	}
	r.require(r.word() == sheetWord)
	s, _, err := sheets.Parse(rest)
	r.require(err == api.OK)
	return day, s, r.done()
}

// statement reads an event or a count.
func (r *reader) statement() statement {
	switch r.word() {
	case "admit":
		return deed{kind: api.AdmitE, at: r.day(), flock: r.flock(), grazing: r.grazing(), mark: r.mark()}
	case "sell":
		return deed{kind: api.SellE, at: r.day(), about: r.name(), flock: r.flock()}
	case "split":
		return deed{kind: api.SplitE, at: r.day(), about: r.name(), flock: r.flock(), mark: r.mark()}
	case "rest":
		return deed{kind: api.RestE, at: r.day(), about: r.name()}
	case "resume":
		return deed{kind: api.ResumeE, at: r.day(), about: r.name()}
	case "move":
		return deed{kind: api.MoveE, at: r.day(), about: r.name(), grazing: r.grazing()}
	case "miss":
		return count{gathering: r.id(), flock: r.flock(), missing: r.number(0, api.MaxHeads)}
	}
	r.failed = true
	return nil
}
