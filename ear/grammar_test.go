package ear_test

import (
	"math/rand"
	"slices"
	"strings"
	"testing"

	"earmark/api"
	"earmark/ear"
)

// moves is the grammar of an ear as a machine: in each state, which token leads to which state. An ear can end in the states "whole" and "part".
func moves(state string) map[string]string {
	starts := map[string]string{"slit": "part", "forked": "part", "hollowed": "part", "cropped": "part", "upper": "edge", "lower": "edge", "hole": "spot"}
	switch state {
	case "begin":
		starts["whole"] = "whole"
		return starts
	case "next":
		return starts
	case "edge":
		return map[string]string{"notch": "slot", "bit": "slot", "key": "slot"}
	case "slot":
		return map[string]string{"0": "part", "1": "part", "2": "part", "3": "part"}
	case "spot":
		return map[string]string{"0": "part", "1": "part", "2": "part"}
	case "part":
		return map[string]string{",": "next"}
	}
	return nil
}

type lexeme struct {
	text string
	at   int
}

// partOf sets the place that the tokens of a part name, and reports whether it was free.
func partOf(part []lexeme, v *[12]int) bool {
	number := func(i int) int { return int(part[i].text[0] - '0') }
	at, value := 0, slices.Index([]string{"slit", "forked", "hollowed", "cropped"}, part[0].text)+1
	switch part[0].text {
	case "hole":
		at, value = 9+number(1), 1
	case "upper":
		at, value = 1+number(2), slices.Index([]string{"notch", "bit", "key"}, part[1].text)+1
	case "lower":
		at, value = 5+number(2), slices.Index([]string{"notch", "bit", "key"}, part[1].text)+1
	}
	free := v[at] == 0
	v[at] = value
	return free
}

// runEar reads an ear up to the token end, and returns what is left, the ear, and the first mistake.
func runEar(l []lexeme, end string) ([]lexeme, api.Ear, mistake) {
	var v [12]int
	state, from := "begin", 0
	for i, x := range l {
		if x.text == end && (state == "part" || state == "whole") {
			if !valid(v) {
				return nil, api.Ear{}, mistake{at: x.at, want: api.ErrEar}
			}
			return l[i+1:], earOf(v), mistake{}
		}
		if state == "begin" || state == "next" {
			from = i
		}
		if state = moves(state)[x.text]; state == "" {
			return nil, api.Ear{}, mistake{at: x.at, want: api.ErrParse}
		}
		if state == "part" && x.text != "," && !partOf(l[from:i+1], &v) {
			return nil, api.Ear{}, mistake{at: l[from].at, want: api.ErrFeature}
		}
	}
	panic("no end")
}

func runMark(l []lexeme) (api.Mark, mistake) {
	var ears [2]api.Ear
	for i, words := range [][]string{{"near", ":"}, {"far", ":"}} {
		for _, w := range words {
			if l[0].text != w {
				return api.Mark{}, mistake{at: l[0].at, want: api.ErrParse}
			}
			l = l[1:]
		}
		var m mistake
		if l, ears[i], m = runEar(l, []string{";", "end"}[i]); m.want != api.OK {
			return api.Mark{}, m
		}
	}
	return api.Mark{Near: ears[0], Far: ears[1]}, mistake{}
}

// spell writes tokens down with some blanks between them, and notes where they and the end are.
func spell(r *rand.Rand, tokens []string) (string, []lexeme) {
	var b strings.Builder
	var l []lexeme
	for i, x := range tokens {
		blanks := r.Intn(3)
		if i > 0 && (letter(x[0]) && letter(tokens[i-1][0]) || digit(x[0]) && digit(tokens[i-1][0])) {
			blanks++
		}
		b.WriteString(strings.Repeat(" ", blanks))
		l = append(l, lexeme{x, b.Len()})
		b.WriteString(x)
	}
	b.WriteString(strings.Repeat(" ", r.Intn(2)))
	return b.String(), append(l, lexeme{"end", b.Len()})
}

func letter(b byte) bool { return b >= 'a' && b <= 'z' }
func digit(b byte) bool  { return b >= '0' && b <= '9' }

// damage replaces, removes, adds or exchanges some tokens.
func damage(r *rand.Rand, tokens []string) []string {
	words := strings.Fields("near far : ; , whole slit forked hollowed cropped upper lower notch bit key hole 0 1 2 3 4 01 x W \xc3 -")
	for range r.Intn(4) {
		i, word := r.Intn(len(tokens)), words[r.Intn(len(words))]
		switch r.Intn(4) {
		case 0:
			tokens[i] = word
		case 1:
			tokens = slices.Insert(tokens, i, word)
		case 2:
			if len(tokens) > 1 {
				tokens = slices.Delete(tokens, i, i+1)
			}
		case 3:
			j := r.Intn(len(tokens))
			tokens[i], tokens[j] = tokens[j], tokens[i]
		}
	}
	return tokens
}

// randomEar returns the tokens of some parts, which need not make a valid ear.
func randomEar(r *rand.Rand) []string {
	var l []string
	features := allFeatures()
	for range r.Intn(5) {
		e, _ := ear.Build(features[r.Intn(len(features)):][:1])
		l = append(l, append(strings.Fields(wordsOf(e)[0]), ",")...)
	}
	if len(l) == 0 {
		return []string{"whole"}
	}
	return l[:len(l)-1]
}

// P1.5: the parsers and the machine agree on right and wrong texts.
func TestParsersAgreeWithTheGrammar(t *testing.T) {
	r := rand.New(rand.NewSource(1))
	found := map[api.Errno]int{}
	for range 50000 {
		s, l := spell(r, damage(r, randomEar(r)))
		_, wantEar, want := runEar(l, "end")
		if e, at, err := ear.ParseWords(s); e != wantEar || at != want.at || err != want.want {
			t.Fatalf("%q: %v %v %v", s, e, at, err)
		}
		tokens := slices.Concat([]string{"near", ":"}, randomEar(r), []string{";", "far", ":"}, randomEar(r))
		s, l = spell(r, damage(r, tokens))
		wantMark, want := runMark(l)
		if m, at, err := ear.ParseMark(s); m != wantMark || at != want.at || err != want.want {
			t.Fatalf("%q: %v %v %v", s, m, at, err)
		}
		found[want.want]++
	}
	for _, err := range []api.Errno{api.OK, api.ErrParse, api.ErrFeature, api.ErrEar} {
		if found[err] < 300 {
			t.Error(err, found[err])
		}
	}
}
