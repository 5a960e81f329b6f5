package grammar_test

import (
	"fmt"
	"regexp"
	"strings"
	"testing"

	"peg/api"
	"peg/grammar"
)

// This file holds a second reading of P4, written another way than the
// program's (no tree: brackets are taken out of a row of tokens as long as one
// pair need not stand), and lays the two beside each other.

var charPattern = regexp.MustCompile(`\\x..|\\.|.`)

func secondWord(s string) string {
	out := "'"
	for _, c := range charPattern.FindAllString(s[1:len(s)-1], -1) {
		out += secondChar(charValue(c), `'\`)
	}
	return out + "'"
}

func secondChar(c byte, marks string) string {
	switch {
	case strings.IndexByte(marks, c) >= 0:
		return `\` + string([]byte{c})
	case c >= 32 && c <= 126:
		return string([]byte{c})
	}
	return fmt.Sprintf(`\x%02x`, c)
}

// membersOf: which bytes are in a set.
func membersOf(s string) [256]bool {
	var in [256]bool
	if s == "." {
		s = "[^]"
	}
	body := s[1 : len(s)-1]
	but := strings.HasPrefix(body, "^")
	for _, m := range rangePattern.FindAllStringSubmatch(strings.TrimPrefix(body, "^"), -1) {
		low, high := m[1], m[2]
		if low == "" {
			low, high = m[0], m[0]
		}
		for c := int(charValue(low)); c <= int(charValue(high)); c++ {
			in[c] = true
		}
	}
	for c := range in {
		in[c] = in[c] != but
	}
	return in
}

func secondSet(s string) string {
	in := membersOf(s)
	out, n := "", 0
	for c := 0; c < 256; {
		run := 0
		for c+run < 256 && in[c+run] {
			run++
		}
		switch {
		case run > 2:
			out += secondChar(byte(c), `]\-^[`) + "-" + secondChar(byte(c+run-1), `]\-^[`)
		case run > 0:
			for k := 0; k < run; k++ {
				out += secondChar(byte(c+k), `]\-^[`)
			}
		}
		n += run
		c += run + 1
	}
	switch n {
	case 0:
		return `[^\x00-\xff]`
	case 256:
		return "."
	}
	return "[" + out + "]"
}

// plainTokens: the tokens of a rule's expression, with words for rows of no
// items; what opens what is caught is one with its name.
func plainTokens(list []piece) []string {
	var out []string
	row := true // no item stands in the row yet
	end := func() {
		if row {
			out = append(out, "''")
		}
	}
	for i := 0; i < len(list); i++ {
		p := list[i]
		switch p.letter {
		case '{':
			if list[i+1].letter == '}' {
				out = append(out, "{}")
				row = false
				i++
				continue
			}
			name := "{"
			if list[i+1].letter == 'c' {
				name += list[i+1].text + ": "
				i += 2
			}
			out = append(out, name)
			row = true
			continue
		case '(':
			row = true
		case '/':
			end()
			row = true
		case ')', '}':
			end()
			row = false
		case 'w', '.':
			if p.text[0] == '\'' {
				p.text = secondWord(p.text)
			} else {
				p.text = secondSet(p.text)
			}
			row = false
		default:
			row = false
		}
		out = append(out, p.text)
	}
	end()
	return out
}

func opens(tok string) bool {
	return tok == "(" || tok[0] == '{' && tok != "{}"
}

func closes(tok string) bool {
	return tok == ")" || tok == "}"
}

func looks(tok string) bool {
	return tok == "&" || tok == "!"
}

func repeats(tok string) bool {
	return tok == "*" || tok == "+" || tok == "?"
}

// within: of the tokens between a pair of brackets, whether there is a choice
// and how many items there are.
func within(list []string) (bool, int) {
	choice, items, open := false, 0, 0
	for _, tok := range list {
		if closes(tok) {
			open--
			continue
		}
		if open == 0 && tok == "/" {
			choice = true
		} else if open == 0 && !looks(tok) && !repeats(tok) {
			items++
		}
		if opens(tok) {
			open++
		}
	}
	return choice, items
}

// mustStand tells whether the brackets at i and j must.
func mustStand(list []string, i, j int) bool {
	ahead := i > 0 && looks(list[i-1])
	behind := j+1 < len(list) && repeats(list[j+1])
	begins := i == 0 || opens(list[i-1]) || list[i-1] == "/"
	ends := j+1 == len(list) || closes(list[j+1]) || list[j+1] == "/"
	choice, items := within(list[i+1 : j])
	switch {
	case choice:
		return !begins || !ends
	case items > 1:
		return ahead || behind
	}
	return behind && looks(list[i+1])
}

func closingOf(list []string, i int) int {
	open := 0
	for j := i; ; j++ {
		if opens(list[j]) {
			open++
		} else if closes(list[j]) {
			open--
		}
		if open == 0 {
			return j
		}
	}
}

// without: the tokens without the first brackets that need not stand; false, if
// all must.
func without(list []string) ([]string, bool) {
	for i, tok := range list {
		if tok != "(" {
			continue
		}
		if j := closingOf(list, i); !mustStand(list, i, j) {
			return taken(list, i, j), true
		}
	}
	return list, false
}

// taken: the tokens without those at i and j.
func taken(list []string, i, j int) []string {
	out := append([]string{}, list[:i]...)
	out = append(out, list[i+1:j]...)
	return append(out, list[j+1:]...)
}

func laidOut(list []string) string {
	s := ""
	for i, tok := range list {
		switch {
		case tok == "/":
			s += " / "
			continue
		case i == 0 || opens(list[i-1]) || looks(list[i-1]) || list[i-1] == "/":
		case closes(tok) || repeats(tok):
		default:
			s += " "
		}
		s += tok
	}
	return s
}

// secondText: of a text that has a grammar.
func secondText(s string) string {
	w := textOf(s)
	out := ""
	for k, i := range w.rules {
		list := plainTokens(w.list[i+2 : w.end(k)])
		for more := true; more; {
			list, more = without(list)
		}
		out += w.list[i].text + " <- " + laidOut(list) + "\n"
	}
	return out
}

// compareText answers whether the text has a grammar.
func compareText(t *testing.T, s string) bool {
	x, _, _ := grammar.Compile(s)
	if x == nil {
		return false
	}
	got := x.Text()
	if want := secondText(s); got != want {
		t.Fatalf("P4: the text of %q is %q, want %q", s, got, want)
	}
	if again := x.Text(); again != got {
		t.Fatalf("P4: the text of %q is %q, and then %q", s, got, again)
	}
	if len(got) > api.MaxText {
		return true
	}
	y, e, at := grammar.Compile(got)
	if y == nil {
		t.Fatalf("P4: of the text %q of %q: Compile(..) = nil, %d, %d", got, s, e, at)
	}
	if again := y.Text(); again != got {
		t.Fatalf("P4: the text of %q is %q, and that of it %q", s, got, again)
	}
	return true
}

func compareTexts(t *testing.T, head string, parts []string, n int, tail string) {
	compareText(t, head+tail)
	if n == 0 {
		return
	}
	for _, p := range parts {
		compareTexts(t, head+p, parts, n-1, tail)
	}
}

func TestTextsOfAllShortTexts(t *testing.T) {
	few := []string{"/ ", "! ", "* ", "? ", "( ", ") ", "'x' "}
	compareTexts(t, "a <- ", append(few, "{ ", "{n: ", "} ", "'' "), 5, "")
	compareTexts(t, "a <- ( ", few, 5, ")")
	compareTexts(t, "a <- (( ", few, 4, ")) ?")
	compareTexts(t, "a <- 'y' ( ", few, 4, ") ?")
	compareTexts(t, "a <- ! ( ", few, 4, ") 'y'")
	compareTexts(t, "a <- 'y' / ( ", few, 4, ")")
	compareTexts(t, "a <- [", []string{"a", "b", "c", "d", "\\x61", "\\xff", "\\x00", "-", "^", "\\]", "]["}, 4, "]")
	compareTexts(t, "a <- '", []string{"a", "\\'", "\\\\", "\\x61", "\\xff", "]", "' '"}, 4, "'")
}

// thrownText: a text of rules, of which many have a grammar.
func thrownText(d *dice) string {
	names := []string{"a", "b", "c", "d"}[:1+d.below(4)]
	s := ""
	for _, n := range names {
		body := strings.Split(thrownBody(d, names, 3), "'x'")
		s += n + " <- " + []string{"", "'x' ", "'y' ", "&'x' . "}[d.below(4)] + body[0]
		for _, rest := range body[1:] {
			s += []string{"'x'", "'x'", "'y'", "'xy'", "[xy]", "[^x]", "."}[d.below(7)] + rest
		}
		s += "\n"
	}
	return s
}

func TestTextsOfThrownTexts(t *testing.T) {
	d := &dice{n: 4}
	right := 0
	for k := 0; k < 20000; k++ {
		if compareText(t, thrownText(d)) {
			right++
		}
	}
	if right < 2000 {
		t.Errorf("of the thrown texts too few have a grammar: %d", right)
	}
}

// Without a pair of its brackets a text has no grammar, or one of another
// text.
func TestNoBracketsTooMany(t *testing.T) {
	d := &dice{n: 5}
	pairs := 0
	for k := 0; k < 5000; k++ {
		x, _, _ := grammar.Compile(thrownText(d))
		if x == nil {
			continue
		}
		text := x.Text()
		var list []string
		for _, p := range pieces(text) {
			list = append(list, p.text)
		}
		for i, tok := range list {
			if tok != "(" {
				continue
			}
			pairs++
			s := strings.Join(taken(list, i, closingOf(list, i)), " ")
			y, _, _ := grammar.Compile(s)
			if y != nil && y.Text() == text {
				t.Fatalf("P4: of %q the text %q is the same", text, s)
			}
		}
	}
	if pairs < 300 {
		t.Errorf("of the thrown texts too few have brackets: %d", pairs)
	}
}
