package ear

import (
	"slices"
	"strings"

	"earmark/api"
)

// ParseWords returns the ear that s describes; if there is none, the byte offset at which s goes wrong.
func ParseWords(s string) (api.Ear, int, api.Errno) {
	if len(s) > api.MaxText {
		return api.Ear{}, 0, api.ErrLimit
	}
	return newParser(s).earBefore("")
}

// ParseMark returns the mark that s describes; if there is none, the byte offset at which s goes wrong.
func ParseMark(s string) (api.Mark, int, api.Errno) {
	if len(s) > api.MaxText {
		return api.Mark{}, 0, api.ErrLimit
	}
	p := newParser(s)
	if !p.pass("near", ":") {
		return api.Mark{}, p.at, api.ErrParse
	}
	near, at, err := p.earBefore(";")
	if err != api.OK {
		return api.Mark{}, at, err
	}
	if !p.pass(";", "far", ":") {
		return api.Mark{}, p.at, api.ErrParse
	}
	far, at, err := p.earBefore("")
	if err != api.OK {
		return api.Mark{}, at, err
	}
	return api.Mark{Near: near, Far: far}, 0, api.OK
}

// parser reads a description. It looks one token ahead: token is the present one, which begins at the offset at. At the end of the text token is empty, and at is the length of the text.
type parser struct {
	next  func() (string, int)
	token string
	at    int
}

func newParser(s string) *parser {
	p := &parser{next: scanner(s)}
	p.token, p.at = p.next()
	return p
}

// scanner returns a function that returns the next token of s and its offset with each call.
func scanner(s string) func() (string, int) {
	at := 0
	return func() (string, int) {
		for at < len(s) && s[at] == ' ' {
			at++
		}
		from := at
		at += tokenLength(s[from:])
		return s[from:at], from
	}
}

// tokenLength returns how many bytes the first token of s takes, which does not begin with a blank.
func tokenLength(s string) int {
	run := func(first, last rune) int {
		rest := strings.TrimLeftFunc(s, func(r rune) bool { return first <= r && r <= last })
		return len(s) - len(rest)
	}
	return max(run('a', 'z'), run('0', '9'), min(len(s), 1))
}

// choose goes past the present token if it is one of words, and returns its index among them and whether it is one.
func (p *parser) choose(words ...string) (int, bool) {
	i := slices.Index(words, p.token)
	if i < 0 {
		return 0, false
	}
	p.token, p.at = p.next()
	return i, true
}

// pass goes past all of words in turn, up to the first that is not the present token, and returns whether it went past all of them.
func (p *parser) pass(words ...string) bool {
	for _, word := range words {
		if _, ok := p.choose(word); !ok {
			return false
		}
	}
	return true
}

// earBefore reads a valid ear that the token end follows, and stays at that token.
func (p *parser) earBefore(end string) (api.Ear, int, api.Errno) {
	e, at, err := p.ear()
	if err != api.OK {
		return api.Ear{}, at, err
	}
	if p.token != end {
		return api.Ear{}, p.at, api.ErrParse
	}
	if err := Check(e); err != api.OK {
		return api.Ear{}, p.at, err
	}
	return e, 0, api.OK
}

// ear reads an ear, which need not be valid.
func (p *parser) ear() (api.Ear, int, api.Errno) {
	if p.pass(wholeWord) {
		return api.Ear{}, 0, api.OK
	}
	var s shape
	for {
		from := p.at
		f, ok := p.part()
		if !ok {
			return api.Ear{}, p.at, api.ErrParse
		}
		place, value, _ := locate(f)
		if s[place] != 0 {
			return api.Ear{}, from, api.ErrFeature
		}
		s[place] = value
		if !p.pass(",") {
			return s.ear(), 0, api.OK
		}
	}
}

// part reads a part of an ear. Where it fails, it stays at the token that does not fit.
func (p *parser) part() (api.Feature, bool) {
	if tip, ok := p.choose(tipWords()...); ok {
		return api.Feature{Kind: api.TipF, Value: api.Slit + tip}, true
	}
	if p.pass(holeWord) {
		spot, ok := p.choose("0", "1", "2")
		return api.Feature{Kind: api.HoleF, At: spot}, ok
	}
	edge, ok := p.choose(edgeWords()...)
	if !ok {
		return api.Feature{}, false
	}
	cut, ok := p.choose(cutWords()...)
	if !ok {
		return api.Feature{}, false
	}
	slot, ok := p.choose("0", "1", "2", "3")
	return api.Feature{Kind: api.SlotF, Edge: edge, At: slot, Value: api.Notch + cut}, ok
}
