package grammar_test

import (
	"fmt"
	"math"
	"strings"
	"testing"

	"peg/api"
	"peg/grammar"
)

// The texts that P1's tests begin with: well written ones and wrong ones.
var texts = []string{
	"", "a", "a <- 'x'", "a <- b b <- 'x'", "a <- a", "a <- ''*", "a <- ('x'* {}*)*", "a <- 'x' a <- 'y'", "a <- (", "a <- 'x", "a <- [b-a]",
	"a <- b a1 c b <- c? 'x' c <- 'y' / !d 'z' d <- e e <- f f <- g g <- h h <- i i <- j j <- k k <- '' a1 <- k",
	"a <- {'x'*} {} {n: 'y'?}", "a <- {n: {.}* {}} {}", "a <- {b b b} b <- {c c c} c <- {n: {} {'x'}?}", "s <- {'a' s? 'b'}", "s <- 'a' s 'a' / 'a'", "a <- b / c b <- a c <- b",
	"sum <- {s: prod (('+' / '-') prod)*}\nprod <- {p: atom ([*/] atom)*}\natom <- {[0-9]+} / '(' sum ')'\n",
}

var numbers = []int{math.MinInt, -1, 0, 1, 2, api.MaxSubject - 1, api.MaxSubject, api.MaxSubject + 1, math.MaxInt}

var subjects = []string{"", "x", "xy", "aabb", "1+2*(3-4)", "\x00\xff", strings.Repeat("a", api.MaxSubject), strings.Repeat("a", api.MaxSubject+1), strings.Repeat("x", 1000000)}

// callAll calls all that can be called on a grammar. What Compile answers
// beside an error is a grammar to call on, too.
func callAll(x *grammar.Grammar) {
	x.Rules()
	x.Text()
	for _, s := range subjects {
		for _, at := range numbers {
			x.Match(s, at)
		}
	}
}

// dice is a row of numbers that is the same in every run.
type dice struct{ n uint64 }

func (d *dice) below(n int) int {
	d.n = d.n*6364136223846793005 + 1442695040888963407
	return int(d.n>>33) % n
}

func (d *dice) text(parts []string, n int) string {
	s := ""
	for d.below(n) > 0 {
		s += parts[d.below(len(parts))]
	}
	return s
}

// checkAnswer looks at what holds of Compile's answer to any text.
func checkAnswer(t *testing.T, s string) *grammar.Grammar {
	t.Helper()
	x, e, at := grammar.Compile(s)
	if (x == nil) != (e != api.OK) || e == api.OK && at != 0 || at < 0 || at > len(s) {
		t.Errorf("P1: Compile(%q) = %v, %d, %d", s, x, e, at)
	}
	return x
}

func TestEveryCallEnds(t *testing.T) {
	callAll(nil)
	callAll(&grammar.Grammar{})
	for _, s := range texts {
		callAll(checkAnswer(t, s))
	}
	for _, part := range []string{"a", "(", "{", "!", "'", "[", "\\", " ", "\x00", "\xff", "a <- ", "{a:", "[^"} {
		for _, n := range []int{1, 2, api.MaxDepth, api.MaxDepth + 1, 100, api.MaxText, 1000000} {
			callAll(checkAnswer(t, strings.Repeat(part, n)))
			callAll(checkAnswer(t, "a <- "+strings.Repeat(part, n)))
		}
	}
}

// What is no grammar has no rules, no text, and matches nothing.
func TestCallsOnNoGrammar(t *testing.T) {
	for _, x := range []*grammar.Grammar{nil, {}} {
		if len(x.Rules()) != 0 || x.Text() != "" {
			t.Errorf("P1: of no grammar the rules are %q and the text is %q", x.Rules(), x.Text())
		}
		for _, s := range []string{"", "x"} {
			if to, caught, ok, e := x.Match(s, 0); to != 0 || caught != "" || ok || e != api.OK {
				t.Errorf("P1: on no grammar: Match(%q, 0) = %d, %q, %v, %d", s, to, caught, ok, e)
			}
		}
	}
}

func TestEveryCallEndsAtThrownTexts(t *testing.T) {
	tokens := []string{"a ", "b ", "c ", "a <- ", "b <- ", "c <- ", "/ ", "& ", "! ", "* ", "+ ", "? ", ". ", "( ", ") ", "{ ", "} ", "{n: ", "'x' ", "'' ", "[^x] "}
	var bytes []string
	for c := 0; c < 256; c++ {
		bytes = append(bytes, string([]byte{byte(c)}))
	}
	d := &dice{}
	for k := 0; k < 3000; k++ {
		callAll(checkAnswer(t, "a <- "+d.text(tokens, 20)))
		callAll(checkAnswer(t, d.text(bytes, 30)))
		callAll(checkAnswer(t, "a <- ["+d.text(bytes[32:127], 6)+"]"))
	}
}

// told is all that a text and its grammar answer.
type told struct {
	e     api.Errno
	at    int
	rules string
	text  string
	match []matched
}

type matched struct {
	to     int
	caught string
	ok     bool
	e      api.Errno
}

func tell(x *grammar.Grammar, e api.Errno, at int) told {
	a := told{e: e, at: at}
	if x == nil {
		return a
	}
	a.rules = strings.Join(x.Rules(), " ")
	a.text = x.Text()
	for _, s := range subjects {
		for _, n := range numbers {
			to, caught, ok, e := x.Match(s, n)
			a.match = append(a.match, matched{to, caught, ok, e})
		}
	}
	return a
}

func same(a, b told) bool {
	if a.e != b.e || a.at != b.at || a.rules != b.rules || a.text != b.text || len(a.match) != len(b.match) {
		return false
	}
	for i := range a.match {
		if a.match[i] != b.match[i] {
			return false
		}
	}
	return true
}

func TestNoGrammarHangsOnAnother(t *testing.T) {
	var first []told
	var kept []*grammar.Grammar
	for _, s := range texts {
		x, e, at := grammar.Compile(s)
		kept = append(kept, x)
		first = append(first, tell(x, e, at))
	}
	for i := len(texts) - 1; i >= 0; i-- {
		x, e, at := grammar.Compile(texts[i])
		if again := tell(x, e, at); !same(again, first[i]) {
			t.Errorf("P1: Compile(%q) answers %v, and then %v", texts[i], first[i], again)
		}
		if again := tell(kept[i], first[i].e, first[i].at); !same(again, first[i]) {
			t.Errorf("P1: the grammar of %q answers %v, and then %v", texts[i], first[i], again)
		}
	}
}

// Lists of the rules of one grammar and of another, written into and grown in
// turn: each holds what its own caller wrote, and a new one the names.
func TestListsAreApart(t *testing.T) {
	for n := 1; n <= api.MaxRules; n++ {
		s, names := ofRules(n)
		x, _, _ := grammar.Compile(s)
		y, _, _ := grammar.Compile(s)
		var lists [][]string
		for k := 0; k < 6; k++ {
			list := x.Rules()
			if k%2 == 1 {
				list = y.Rules()
			}
			if strings.Join(list, " ") != strings.Join(names, " ") {
				t.Fatalf("P1: the rules of %q are %q", s, list)
			}
			mine := fmt.Sprintf("of list %d", k)
			for i := range list {
				list[i] = mine
			}
			lists = append(lists, append(list, mine))
		}
		for k, list := range lists {
			for i := range list {
				if list[i] != fmt.Sprintf("of list %d", k) {
					t.Errorf("P1: into list %d of the rules of %q was written %q", k, s, list[i])
				}
			}
		}
	}
}

func TestListsAreTheCallers(t *testing.T) {
	for _, s := range texts {
		x, e, at := grammar.Compile(s)
		if x == nil {
			continue
		}
		before := tell(x, e, at)
		list := x.Rules()
		other := x.Rules()
		held := strings.Join(other, " ")
		// All of the list's room, that behind its end too.
		room := list[:cap(list)]
		for i := range room {
			room[i] = "written"
		}
		if strings.Join(other, " ") != held {
			t.Errorf("P1: two lists of the rules of %q share memory", s)
		}
		if after := tell(x, e, at); !same(after, before) {
			t.Errorf("P1: the grammar of %q answers %v, and %v once its list is written into", s, before, after)
		}
		for i := range room {
			if room[i] != "written" {
				t.Errorf("P1: a list of the rules of %q is written into", s)
			}
		}
	}
}
