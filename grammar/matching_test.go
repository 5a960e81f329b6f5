package grammar_test

import (
	"strings"
	"testing"

	"peg/api"
	"peg/grammar"
)

// This file holds a second reading of P5, written another way than the
// program's (functions made of functions, right from the tokens, that note
// nothing), and lays the two beside each other.

// way does what an expression does at a place of a subject: it answers the
// place up to which it matches, or none.
type way func(s string, at int) int

// maker makes the ways of a text. It counts steps, since some texts take too
// many.
type maker struct {
	w     text
	i     int // the piece it stands at
	rules []way
	steps int
}

const maxSteps = 20000

func makerOf(s string) *maker {
	m := &maker{w: textOf(s)}
	for _, i := range m.w.rules {
		m.i = i + 2
		m.rules = append(m.rules, m.expression())
	}
	return m
}

func (m *maker) letter() byte {
	if m.i >= len(m.w.list) {
		return 'r'
	}
	return m.w.list[m.i].letter
}

func (m *maker) expression() way {
	first := m.row()
	if m.letter() != '/' {
		return first
	}
	m.i++
	rest := m.expression()
	return func(s string, at int) int {
		if to := first(s, at); to != none {
			return to
		}
		return rest(s, at)
	}
}

func (m *maker) row() way {
	if strings.IndexByte("r/)}", m.letter()) >= 0 {
		return func(s string, at int) int { return at }
	}
	first := m.item()
	rest := m.row()
	return func(s string, at int) int {
		if at = first(s, at); at == none {
			return none
		}
		return rest(s, at)
	}
}

func (m *maker) item() way {
	letter := m.letter()
	if letter != '&' && letter != '!' {
		return m.signs(m.single())
	}
	m.i++
	look := m.item()
	return func(s string, at int) int {
		if (look(s, at) == none) == (letter == '!') {
			return at
		}
		return none
	}
}

func (m *maker) signs(do way) way {
	letter := m.letter()
	if strings.IndexByte("*+?", letter) < 0 {
		return do
	}
	m.i++
	return m.signs(func(s string, at int) int {
		times := 0
		for to := do(s, at); to != none; to = do(s, at) {
			at = to
			times++
			if letter == '?' {
				break
			}
		}
		if letter == '+' && times == 0 {
			return none
		}
		return at
	})
}

func (m *maker) single() way {
	p := m.w.list[m.i]
	m.i++
	switch p.letter {
	case '(', '{':
		if m.letter() == 'c' {
			m.i += 2
		}
		do := m.expression()
		m.i++
		return do
	case 'n':
		k := m.w.ruleOf(p.text)
		return func(s string, at int) int {
			m.steps++
			if m.steps > maxSteps {
				return none
			}
			return m.rules[k](s, at)
		}
	}
	return m.bytes(p.text)
}

func (m *maker) bytes(text string) way {
	if text[0] != '\'' {
		in := membersOf(text)
		return func(s string, at int) int {
			m.steps++
			if m.steps <= maxSteps && at < len(s) && in[s[at]] {
				return at + 1
			}
			return none
		}
	}
	word := ""
	for _, c := range charPattern.FindAllString(text[1:len(text)-1], -1) {
		word += string([]byte{charValue(c)})
	}
	return func(s string, at int) int {
		m.steps++
		if m.steps <= maxSteps && strings.HasPrefix(s[at:], word) {
			return at + len(word)
		}
		return none
	}
}

// compareMatch compares at all places of a subject. It answers how often the
// grammar matches, how often it fails, and how often it takes too many steps.
func compareMatch(t *testing.T, text string, x *grammar.Grammar, m *maker, s string) [3]int {
	var told [3]int
	for at := 0; at <= len(s); at++ {
		m.steps = 0
		want := m.rules[0](s, at)
		to, caught, ok, e := x.Match(s, at)
		if m.steps > maxSteps {
			told[2]++
			continue
		}
		if e != api.OK || ok != (want != none) || to != max(want, 0) || !ok && caught != "" {
			t.Fatalf("P5: %q: Match(%q, %d) = %d, %q, %v, %d, want %d", text, s, at, to, caught, ok, e, want)
		}
		if ok {
			told[0]++
		} else {
			told[1]++
		}
	}
	return told
}

// over: all subjects of up to n of the letters.
func over(letters string, n int) []string {
	list := []string{""}
	for from := 0; n > 0; n-- {
		last := list[from:]
		from = len(list)
		for _, s := range last {
			for _, c := range letters {
				list = append(list, s+string(c))
			}
		}
	}
	return list
}

func TestMatchesOfAllShortTexts(t *testing.T) {
	subjects := over("xy", 3)
	var try func(s string, parts []string, n int, tail string)
	try = func(s string, parts []string, n int, tail string) {
		if x, _, _ := grammar.Compile(s + tail); x != nil {
			m := makerOf(s + tail)
			for _, subject := range subjects {
				compareMatch(t, s+tail, x, m, subject)
			}
		}
		if n == 0 {
			return
		}
		for _, p := range parts {
			try(s+p, parts, n-1, tail)
		}
	}
	try("a <- ", []string{"/ ", "! ", "& ", "* ", "+ ", "? ", "( ", ") ", "'x' ", "'y' ", "a "}, 4, "")
	try("a <- ( ", []string{"/ ", "! ", "* ", "? ", "'x' ", "'y' ", ". "}, 4, ") * 'x'")
	try("a <- ", []string{"/ ", "b ", "b <- ", "'x' ", "'y' ", "? ", "! "}, 5, "")
}

func TestMatchesOfThrownTexts(t *testing.T) {
	subjects := append(over("xy", 4), over("xyz", 2)...)
	for _, s := range []string{"xy", "xxy", "x", "xyyx"} {
		subjects = append(subjects, strings.Repeat(s, 2), strings.Repeat(s, api.MaxSubject/len(s)))
	}
	d := &dice{n: 6}
	var told [3]int
	for k := 0; k < 4000; k++ {
		s := thrownText(d)
		x, _, _ := grammar.Compile(s)
		if x == nil {
			continue
		}
		m := makerOf(s)
		for _, subject := range subjects {
			for i, n := range compareMatch(t, s, x, m, subject) {
				told[i] += n
			}
		}
	}
	if told[0] < 10000 || told[1] < 10000 || told[2] > told[1] {
		t.Errorf("of the thrown texts too few match, or fail, or end: %v", told)
	}
}

// The text of a grammar has a grammar that matches as it does.
func TestMatchesOfTextsOfTexts(t *testing.T) {
	d := &dice{n: 7}
	subjects := over("xy", 5)
	for k := 0; k < 4000; k++ {
		s := thrownText(d)
		x, _, _ := grammar.Compile(s)
		if x == nil || len(x.Text()) > api.MaxText {
			continue
		}
		y := compiled(t, x.Text())
		for _, subject := range subjects {
			to, caught, ok, e := x.Match(subject, 0)
			to2, caught2, ok2, e2 := y.Match(subject, 0)
			if to != to2 || caught != caught2 || ok != ok2 || e != e2 {
				t.Fatalf("P4: %q: Match(%q, 0) = %d, %q, %v, %d, but by its text %d, %q, %v, %d", s, subject, to, caught, ok, e, to2, caught2, ok2, e2)
			}
		}
	}
}
