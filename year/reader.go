package year

import (
	"strconv"
	"strings"

	"earmark/api"
	"earmark/ear"
	"earmark/sheets"
)

const (
	// blank stands between words.
	blank = " "
	// headMark is the word ahead of each head of a sheet, headWords is how many words the text of a head has.
	headMark  = ";"
	headWords = 5
	// maxKeep is how many digits say what survives of the writes that were not safe.
	maxKeep = 1000
	// keepBytes is how many bytes of a write a digit stands for.
	keepBytes = 8
)

// reader reads the words of a line, one after the other. It has failed as soon as a word is missing, or is not what it has to be; what it returns then does not matter.
type reader struct {
	words  []string
	failed bool
}

// readerOf returns a reader of a line. Where there is a blank too many, a word is empty, which is not what any word has to be.
func readerOf(line string) *reader {
	r := &reader{}
	start := 0
	for i, c := range line {
		if c == ' ' {
			r.words = append(r.words, line[start:i])
			start = i + 1
		}
	}
	r.words = append(r.words, line[start:])
	return r
}

// done reports whether all words have been read, and were what they had to be.
func (r *reader) done() bool { return !r.failed && len(r.words) == 0 }

// hasMore reports whether there is something left to be read.
func (r *reader) hasMore() bool { return !r.failed && len(r.words) > 0 }

func (r *reader) require(holds bool) {
	if !holds {
		r.failed = true
	}
}

// word reads any word.
func (r *reader) word() string {
	if len(r.words) == 0 {
		r.failed = true
		return ""
	}
	word := r.words[0]
	r.words = r.words[1:]
	return word
}

// number reads a number from least to most.
func (r *reader) number(least, most int) int { return r.numberOf(r.word(), least, most) }

// numberOf returns the number that a word, or a part of one, is. Signs and leading zeros are not written.
func (r *reader) numberOf(word string, least, most int) int {
	n, err := strconv.Atoi(word)
	r.require(err == nil && strconv.Itoa(n) == word && n >= least && n <= most)
	return n
}

func (r *reader) parish() int { return r.number(0, api.MaxParishes-1) }

func (r *reader) entryNumber() int { return r.number(0, api.MaxEntries-1) }

func (r *reader) day() int { return r.number(0, api.MaxDay) }

func (r *reader) yearDay() int { return r.number(0, api.YearDays-1) }

func (r *reader) flock() int { return r.number(0, api.MaxFlocks-1) }

func (r *reader) grazing() int { return r.number(0, api.MaxGrazings-1) }

// id reads the number of a gathering or of a clerk.
func (r *reader) id() int { return r.number(0, api.MaxId) }

func (r *reader) wrong() int { return r.number(0, api.MaxWrong) }

// name reads the name of an entry: its parish and its number, with a point between.
func (r *reader) name() name {
	parish, no, _ := strings.Cut(r.word(), point)
	return name{r.numberOf(parish, 0, api.MaxParishes-1), r.numberOf(no, 0, api.MaxEntries-1)}
}

func (r *reader) mark() api.Mark { return api.Mark{Near: r.ear(), Far: r.ear()} }

func (r *reader) ear() api.Ear {
	e, err := ear.ParseShort(r.word())
	r.require(err == api.OK)
	return e
}

// heads reads the heads of a sheet, which are the rest of the line.
func (r *reader) heads() []api.Head {
	var l []api.Head
	for r.hasMore() {
		r.require(r.word() == headMark)
		n := min(headWords, len(r.words))
		h, err := sheets.ParseHead(strings.Join(r.words[:n], blank))
		r.require(err == api.OK)
		r.words = r.words[n:]
		l = append(l, h)
	}
	return l
}

// keep reads what survives of the writes that were not safe: of each of them the digit says how much.
func (r *reader) keep() string {
	word := r.word()
	r.require(len(word) >= 1 && len(word) <= maxKeep)
	var kept []byte
	for _, c := range word {
		r.require(c >= '0' && c <= '9')
		kept = append(kept, keepBytes*byte(c-'0'))
	}
	return string(kept)
}

// form reads what a parish writes down of an event or a count, which is the rest of the line, and returns it as it stands there.
func (r *reader) form() string {
	text := strings.Join(r.words, blank)
	r.statement()
	return text
}
