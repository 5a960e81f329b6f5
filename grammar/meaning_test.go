package grammar_test

import (
	"regexp"
	"strings"
	"testing"

	"peg/api"
	"peg/grammar"
)

// This file holds a second reading of P3, written another way than the
// program's (no tree: rows of tokens are rewritten till one letter is left,
// and what stands ahead of a token is looked for leftwards from it), and lays
// the two beside each other.

// text is a well written text: its pieces, and the numbers of those that begin
// rules, in order.
type text struct {
	list  []piece
	rules []int
}

func textOf(s string) text {
	w := text{list: pieces(s)}
	for i, p := range w.list {
		if p.letter == 'r' {
			w.rules = append(w.rules, i)
		}
	}
	return w
}

// end: of the k-th rule, the number of the piece behind it.
func (w text) end(k int) int {
	if k+1 < len(w.rules) {
		return w.rules[k+1]
	}
	return len(w.list)
}

// ruleOf: the number of the rule of a name, -1 if there is none.
func (w text) ruleOf(name string) int {
	for k, i := range w.rules {
		if w.list[i].text == name {
			return k
		}
	}
	return -1
}

// names tells whether the i-th piece is the name of a rule that an item is.
func (w text) names(i int) bool {
	return w.list[i].letter == 'n'
}

var rewrites = []struct {
	from *regexp.Regexp
	to   string
}{
	{regexp.MustCompile(`[EN][*?]`), "E"},
	{regexp.MustCompile(`([EN])\+`), "$1"},
	{regexp.MustCompile(`[&!][EN]([^*?+])`), "E$1"},
	{regexp.MustCompile(`([(/])EE([^*?+])`), "${1}E$2"},
	{regexp.MustCompile(`([(/])(NN|NE|EN)([^*?+])`), "${1}N$3"},
	{regexp.MustCompile(`\(/`), "(E/"},
	{regexp.MustCompile(`/([/)])`), "/E$1"},
	{regexp.MustCompile(`\(N/N([/)])`), "(N$1"},
	{regexp.MustCompile(`\((E/[EN]|N/E)([/)])`), "(E$2"},
	{regexp.MustCompile(`\(\)`), "E"},
	{regexp.MustCompile(`\(([EN])\)`), "$1"},
}

// empty tells whether the pieces from i up to j may match nothing, if those
// rules may. E is what may, N what may not.
func (w text) empty(i, j int, known []bool) bool {
	s := "("
	for ; i < j; i++ {
		p := w.list[i]
		switch p.letter {
		case 'n':
			s += "N"
			if k := w.ruleOf(p.text); k >= 0 && known[k] {
				s = s[:len(s)-1] + "E"
			}
		case 'w':
			s += "N"
			if p.text == "''" {
				s = s[:len(s)-1] + "E"
			}
		case '.':
			s += "N"
		case '{':
			s += "("
		case '}':
			s += ")"
		case 'c', ':':
		default:
			s += string([]byte{p.letter})
		}
	}
	s += ")"
	for before := ""; s != before; {
		before = s
		for _, r := range rewrites {
			s = r.from.ReplaceAllString(s, r.to)
		}
	}
	if s != "E" && s != "N" {
		panic("rewritten to " + s)
	}
	return s == "E"
}

// emptyRules: which rules may match nothing, by as many rounds as there are
// rules.
func (w text) emptyRules() []bool {
	known := make([]bool, len(w.rules))
	for range w.rules {
		next := make([]bool, len(w.rules))
		for k, i := range w.rules {
			next[k] = w.empty(i+2, w.end(k), known)
		}
		known = next
	}
	return known
}

// opening: the number of the piece that opens the bracket that the i-th
// closes.
func (w text) opening(i int) int {
	open := 0
	for ; ; i-- {
		switch w.list[i].letter {
		case ')', '}':
			open++
		case '(', '{':
			open--
		}
		if open == 0 {
			return i
		}
	}
}

// begins tells whether a rule may begin with the name that is the i-th piece
// of the text: all that stands ahead of it in its row, and in the rows that
// its brackets stand in, may match nothing.
func (w text) begins(i int, known []bool) bool {
	for {
		j := i
		for strings.IndexByte("&!", w.list[j-1].letter) >= 0 {
			j--
		}
		from := j
		for strings.IndexByte("=/({:", w.list[from-1].letter) < 0 {
			from--
			if l := w.list[from].letter; l == ')' || l == '}' {
				from = w.opening(from)
			}
		}
		if !w.empty(from, j, known) {
			return false
		}
		for w.list[from-1].letter == '/' || strings.IndexByte("=({:", w.list[from-1].letter) < 0 {
			from--
			if l := w.list[from].letter; l == ')' || l == '}' {
				from = w.opening(from)
			}
		}
		i = from - 1
		if w.list[i].letter == ':' {
			i -= 2
		}
		if w.list[i].letter == '=' {
			return true
		}
	}
}

// leftRule: the number of the first rule that may begin with itself, or -1.
func (w text) leftRule(known []bool) int {
	n := len(w.rules)
	reach := make([][]bool, n)
	for k, i := range w.rules {
		reach[k] = make([]bool, n)
		for j := i + 2; j < w.end(k); j++ {
			if w.names(j) && w.begins(j, known) {
				reach[k][w.ruleOf(w.list[j].text)] = true
			}
		}
	}
	for m := 0; m < n; m++ {
		for k := 0; k < n; k++ {
			for j := 0; j < n; j++ {
				reach[k][j] = reach[k][j] || reach[k][m] && reach[m][j]
			}
		}
	}
	for k := range reach {
		if reach[k][k] {
			return k
		}
	}
	return -1
}

// repeatsNothing tells whether the i-th piece, a sign, stands behind what may
// match nothing.
func (w text) repeatsNothing(i int, known []bool) bool {
	from := i - 1
	for strings.IndexByte("*+?", w.list[from].letter) >= 0 {
		from--
	}
	if l := w.list[from].letter; l == ')' || l == '}' {
		from = w.opening(from)
	}
	return w.empty(from, i, known)
}

// meaning: what Compile should answer to a well written text.
func meaning(s string) (api.Errno, int) {
	w := textOf(s)
	if len(w.rules) == 0 || len(w.rules) > api.MaxRules {
		return api.ErrRules, 0
	}
	seen := map[string]bool{}
	for _, i := range w.rules {
		if seen[w.list[i].text] {
			return api.ErrTwice, w.list[i].at
		}
		seen[w.list[i].text] = true
	}
	for i, p := range w.list {
		if w.names(i) && !seen[p.text] {
			return api.ErrNone, p.at
		}
	}
	known := w.emptyRules()
	if k := w.leftRule(known); k >= 0 {
		return api.ErrLeft, w.list[w.rules[k]].at
	}
	for i, p := range w.list {
		if (p.letter == '*' || p.letter == '+') && w.repeatsNothing(i, known) {
			return api.ErrLoop, p.at
		}
	}
	return api.OK, 0
}

// compareMeaning leaves out what is not well written, and answers what was
// told.
func compareMeaning(t *testing.T, s string) api.Errno {
	if e, _ := second(s); e != api.OK {
		return e
	}
	x, e, at := grammar.Compile(s)
	wantE, wantAt := meaning(s)
	if e != wantE || at != wantAt || (x == nil) != (e != api.OK) {
		t.Fatalf("P3: Compile(%q) = %v, %d, %d, want %d, %d", s, x, e, at, wantE, wantAt)
	}
	if x == nil {
		return e
	}
	w := textOf(s)
	list := x.Rules()
	for k, i := range w.rules {
		if len(list) != len(w.rules) || list[k] != w.list[i].text {
			t.Fatalf("P3: the rules of %q are %q", s, list)
		}
	}
	return e
}

func compareMeanings(t *testing.T, head string, parts []string, n int, tail string) {
	compareMeaning(t, head+tail)
	if n == 0 {
		return
	}
	for _, p := range parts {
		compareMeanings(t, head+p, parts, n-1, tail)
	}
}

func TestMeaningOfAllShortTexts(t *testing.T) {
	few := []string{"a ", "/ ", "! ", "* ", "+ ", "? ", "( ", ") ", "{ ", "} ", "'' ", "'x' "}
	compareMeanings(t, "a <- ", few, 4, "")
	compareMeanings(t, "a <- 'x' b ", []string{"b <- ", "a ", "b ", "/ ", "* ", "? ", "'x' "}, 5, "")
	compareMeanings(t, "a <- ", []string{"b <- ", "c <- ", "a ", "b ", "c ", "'x' ", "/ "}, 5, "")
	compareMeanings(t, "", []string{"a <- ", "b <- ", "a ", "b ", "* ", "'' "}, 5, "")
	compareMeanings(t, "a <- ( ", few, 4, ") * b <- a")
}

// thrownBody: an expression with at most so many brackets within each other.
func thrownBody(d *dice, names []string, depth int) string {
	s := ""
	for {
		for d.below(4) > 0 {
			s += thrownItem(d, names, depth) + " "
		}
		if d.below(4) > 0 {
			return s
		}
		s += "/ "
	}
}

func thrownItem(d *dice, names []string, depth int) string {
	s := []string{"", "", "", "", "", "", "&", "!"}[d.below(8)]
	switch k := d.below(8); {
	case k < 3:
		s += names[d.below(len(names))]
	case k == 3 && depth > 0:
		s += "(" + thrownBody(d, names, depth-1) + ")"
	case k == 4 && depth > 0:
		s += []string{"{", "{n:", "{a: "}[d.below(3)] + thrownBody(d, names, depth-1) + "}"
	case k == 5:
		s += []string{"''", "{}", ".", "[x]"}[d.below(4)]
	default:
		s += "'x'"
	}
	for d.below(5) == 0 {
		s += []string{"*", "+", "?", "?"}[d.below(4)]
	}
	return s
}

func TestMeaningOfThrownTexts(t *testing.T) {
	all := []string{"a", "b", "c", "d", "e", "f", "g"}
	d := &dice{n: 3}
	told := map[api.Errno]int{}
	for k := 0; k < 2000; k++ {
		names := all[:1+d.below(len(all))]
		used := names
		if d.below(10) == 0 {
			used = all
		}
		s := ""
		for _, n := range names {
			if d.below(60) == 0 {
				n = all[d.below(len(all))]
			}
			// Something ahead keeps most rules from beginning with themselves.
			s += n + " <- " + []string{"", "'x' ", "'x' ", "'x'? "}[d.below(4)] + thrownBody(d, used, 2) + "\n"
		}
		told[compareMeaning(t, s)]++
	}
	for _, e := range []api.Errno{api.OK, api.ErrTwice, api.ErrNone, api.ErrLeft, api.ErrLoop} {
		if told[e] < 10 {
			t.Errorf("of the thrown texts too few are of error %d: %v", e, told)
		}
	}
}
