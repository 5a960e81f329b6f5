package grammar_test

import (
	"fmt"
	"slices"
	"strings"
	"testing"

	"peg/api"
	"peg/grammar"
)

// This file holds a second reading of P5 and P6, written another way than the
// program's (functions made of functions, right from the tokens, that note
// nothing and catch as they match), and lays the two beside each other.

// catch is a place or a part that is caught, as it is written, but for what is
// caught within.
type catch struct {
	head   string
	within []catch
}

// writtenCatches: a list of what is caught.
func writtenCatches(list []catch) string {
	var s []string
	for _, c := range list {
		if len(c.within) > 0 {
			c.head += "(" + writtenCatches(c.within) + ")"
		}
		s = append(s, c.head)
	}
	return strings.Join(s, " ")
}

// way does what an expression does at a place of a subject: it answers the
// place up to which it matches, or none, and what it catches.
type way func(s string, at int) (int, []catch)

// maker makes the ways of a text. It counts steps, since some texts take too
// many.
type maker struct {
	w     text
	i     int // the piece it stands at
	rules []way
	steps int
}

const maxSteps = 20000

func makerOf(s string) *maker {
	m := &maker{w: textOf(s)}
	for _, i := range m.w.rules {
		m.i = i + 2
		m.rules = append(m.rules, m.expression())
	}
	return m
}

func (m *maker) letter() byte {
	if m.i >= len(m.w.list) {
		return 'r'
	}
	return m.w.list[m.i].letter
}

func (m *maker) expression() way {
	first := m.row()
	if m.letter() != '/' {
		return first
	}
	m.i++
	rest := m.expression()
	return func(s string, at int) (int, []catch) {
		if to, list := first(s, at); to != none {
			return to, list
		}
		return rest(s, at)
	}
}

func (m *maker) row() way {
	if strings.IndexByte("r/)}", m.letter()) >= 0 {
		return func(s string, at int) (int, []catch) { return at, nil }
	}
	first := m.item()
	rest := m.row()
	return func(s string, at int) (int, []catch) {
		at, ahead := first(s, at)
		if at == none {
			return none, nil
		}
		to, behind := rest(s, at)
		if to == none {
			return none, nil
		}
		return to, slices.Concat(ahead, behind)
	}
}

func (m *maker) item() way {
	letter := m.letter()
	if letter != '&' && letter != '!' {
		return m.signs(m.single())
	}
	m.i++
	look := m.item()
	return func(s string, at int) (int, []catch) {
		if to, _ := look(s, at); (to == none) == (letter == '!') {
			return at, nil
		}
		return none, nil
	}
}

func (m *maker) signs(do way) way {
	letter := m.letter()
	if strings.IndexByte("*+?", letter) < 0 {
		return do
	}
	m.i++
	return m.signs(func(s string, at int) (int, []catch) {
		times := 0
		var list []catch
		for to, more := do(s, at); to != none; to, more = do(s, at) {
			at = to
			list = append(list, more...)
			times++
			if letter == '?' {
				break
			}
		}
		if letter == '+' && times == 0 {
			return none, nil
		}
		return at, list
	})
}

func (m *maker) single() way {
	p := m.w.list[m.i]
	m.i++
	switch p.letter {
	case '(':
		do := m.expression()
		m.i++
		return do
	case '{':
		return m.braces()
	case 'n':
		k := m.w.ruleOf(p.text)
		return func(s string, at int) (int, []catch) {
			m.steps++
			if m.steps > maxSteps {
				return none, nil
			}
			return m.rules[k](s, at)
		}
	}
	return m.bytes(p.text)
}

// braces: what stands behind a brace that opens.
func (m *maker) braces() way {
	if m.letter() == '}' {
		m.i++
		return func(s string, at int) (int, []catch) {
			return at, []catch{{head: fmt.Sprint(at)}}
		}
	}
	name := ""
	if m.letter() == 'c' {
		name = m.w.list[m.i].text + "="
		m.i += 2
	}
	do := m.expression()
	m.i++
	return func(s string, at int) (int, []catch) {
		to, within := do(s, at)
		if to == none {
			return none, nil
		}
		return to, []catch{{fmt.Sprintf("%s%d-%d", name, at, to), within}}
	}
}

func (m *maker) bytes(text string) way {
	if text[0] != '\'' {
		in := membersOf(text)
		return func(s string, at int) (int, []catch) {
			m.steps++
			if m.steps <= maxSteps && at < len(s) && in[s[at]] {
				return at + 1, nil
			}
			return none, nil
		}
	}
	word := ""
	for _, c := range charPattern.FindAllString(text[1:len(text)-1], -1) {
		word += string([]byte{charValue(c)})
	}
	return func(s string, at int) (int, []catch) {
		m.steps++
		if m.steps <= maxSteps && strings.HasPrefix(s[at:], word) {
			return at + len(word), nil
		}
		return none, nil
	}
}

// compareMatch compares at all places of a subject. It answers how often the
// grammar matches, how often it fails, how often it takes too many steps, and
// how often something is caught within something.
func compareMatch(t *testing.T, text string, x *grammar.Grammar, m *maker, s string) [4]int {
	var told [4]int
	for at := 0; at <= len(s); at++ {
		m.steps = 0
		want, list := m.rules[0](s, at)
		to, caught, ok, e := x.Match(s, at)
		if m.steps > maxSteps {
			told[2]++
			continue
		}
		if e != api.OK || ok != (want != none) || to != max(want, 0) || !ok && caught != "" {
			t.Fatalf("P5: %q: Match(%q, %d) = %d, %q, %v, %d, want %d", text, s, at, to, caught, ok, e, want)
		}
		if caught != writtenCatches(list) {
			t.Fatalf("P6: %q: Match(%q, %d) tells %q, want %q", text, s, at, caught, writtenCatches(list))
		}
		if ok {
			told[0]++
		} else {
			told[1]++
		}
		if strings.Contains(caught, "(") {
			told[3]++
		}
	}
	return told
}

// over: all subjects of up to n of the letters.
func over(letters string, n int) []string {
	list := []string{""}
	for from := 0; n > 0; n-- {
		last := list[from:]
		from = len(list)
		for _, s := range last {
			for _, c := range letters {
				list = append(list, s+string(c))
			}
		}
	}
	return list
}

func TestMatchesOfAllShortTexts(t *testing.T) {
	subjects := over("xy", 3)
	var try func(s string, parts []string, n int, tail string)
	try = func(s string, parts []string, n int, tail string) {
		if x, _, _ := grammar.Compile(s + tail); x != nil {
			m := makerOf(s + tail)
			for _, subject := range subjects {
				compareMatch(t, s+tail, x, m, subject)
			}
		}
		if n == 0 {
			return
		}
		for _, p := range parts {
			try(s+p, parts, n-1, tail)
		}
	}
	try("a <- ", []string{"/ ", "! ", "& ", "* ", "+ ", "? ", "( ", ") ", "'x' ", "'y' ", "a "}, 4, "")
	try("a <- ( ", []string{"/ ", "! ", "* ", "? ", "'x' ", "'y' ", ". "}, 4, ") * 'x'")
	try("a <- ", []string{"/ ", "b ", "b <- ", "'x' ", "'y' ", "? ", "! "}, 5, "")
	try("a <- ", []string{"/ ", "! ", "* ", "? ", "{ ", "} ", "{n: ", "{} ", "'x' ", "'y' "}, 5, "")
	try("a <- { ", []string{"/ ", "! ", "+ ", "} ", "{ ", "{} ", "'x' ", "b "}, 5, "} 'y' {} b <- {'x'} {}")
}

func TestMatchesOfThrownTexts(t *testing.T) {
	subjects := append(over("xy", 4), over("xyz", 2)...)
	for _, s := range []string{"xy", "xxy", "x", "xyyx"} {
		subjects = append(subjects, strings.Repeat(s, 2), strings.Repeat(s, api.MaxSubject/len(s)))
	}
	d := &dice{n: 6}
	var told [4]int
	for k := 0; k < 4000; k++ {
		s := thrownText(d)
		x, _, _ := grammar.Compile(s)
		if x == nil {
			continue
		}
		m := makerOf(s)
		for _, subject := range subjects {
			for i, n := range compareMatch(t, s, x, m, subject) {
				told[i] += n
			}
		}
	}
	if told[0] < 10000 || told[1] < 10000 || told[2] > told[1] {
		t.Errorf("of the thrown texts too few match, or fail, or end: %v", told)
	}
}

// thrownCatch: an expression that catches much. It names the rules freely
// behind what takes a byte, and else the ones behind its own alone.
func thrownCatch(d *dice, names string, own int, depth int) string {
	s := ""
	for n := 1 + d.below(3); n > 0; n-- {
		s += []string{"", "", "", "", "", "", "&", "!"}[d.below(8)]
		k := d.below(9)
		if depth == 0 {
			k %= 4
		}
		switch k {
		case 0:
			s += "{}"
		case 1, 2:
			s += []string{"'x'", "{'x'}", "{n: 'y'}", ".", "{.}", "[xy]", "'xy'"}[d.below(7)]
		case 3:
			s += "{" + []string{"", "'x' "}[d.below(2)] + "'y'?}"
		case 4:
			s += "('x' " + names[d.below(len(names)):][:1] + ")"
		case 5:
			s += (names + ".")[own+1+d.below(len(names)-own):][:1]
		case 6:
			s += "(" + thrownCatch(d, names, own, depth-1) + "/ " + thrownCatch(d, names, own, depth-1) + ")"
		default:
			s += []string{"{", "{m: "}[d.below(2)] + thrownCatch(d, names, own, depth-1) + "}"
		}
		s += []string{"", "", "", "?", "*", "+", "??", "+?"}[d.below(8)] + " "
	}
	return s
}

func TestCatchesOfThrownTexts(t *testing.T) {
	subjects := append(over("xy", 5), "z", "xzy", strings.Repeat("xxyx", 15), strings.Repeat("xy", 30), strings.Repeat("x", 60))
	d := &dice{n: 8}
	var told [4]int
	for k := 0; k < 3000; k++ {
		names := "abcd"[:1+d.below(4)]
		s := ""
		for own := range names {
			s += names[own:own+1] + " <- " + thrownCatch(d, names, own, 3) + "\n"
		}
		x, _, _ := grammar.Compile(s)
		if x == nil {
			continue
		}
		m := makerOf(s)
		for _, subject := range subjects {
			for i, n := range compareMatch(t, s, x, m, subject) {
				told[i] += n
			}
		}
	}
	if told[1] < 10000 || told[2] > told[1] || told[3] < 5000 {
		t.Errorf("of the thrown texts too few fail, or end, or catch: %v", told)
	}
}

// The text of a grammar has a grammar that matches as it does.
func TestMatchesOfTextsOfTexts(t *testing.T) {
	d := &dice{n: 7}
	subjects := over("xy", 5)
	for k := 0; k < 4000; k++ {
		s := thrownText(d)
		x, _, _ := grammar.Compile(s)
		if x == nil || len(x.Text()) > api.MaxText {
			continue
		}
		y := compiled(t, x.Text())
		for _, subject := range subjects {
			to, caught, ok, e := x.Match(subject, 0)
			to2, caught2, ok2, e2 := y.Match(subject, 0)
			if to != to2 || caught != caught2 || ok != ok2 || e != e2 {
				t.Fatalf("P4: %q: Match(%q, 0) = %d, %q, %v, %d, but by its text %d, %q, %v, %d", s, subject, to, caught, ok, e, to2, caught2, ok2, e2)
			}
		}
	}
}
