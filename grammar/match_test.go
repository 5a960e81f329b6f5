package grammar_test

import (
	"fmt"
	"math"
	"strings"
	"testing"

	"peg/api"
	"peg/grammar"
)

// none: instead of the place up to which something matches.
const none = -1

// checkMatch: up to where, or none, a grammar matches at a place of a subject.
func checkMatch(t *testing.T, x *grammar.Grammar, s string, at int, want int) {
	t.Helper()
	to, caught, ok, e := x.Match(s, at)
	if e != api.OK || ok != (want != none) || to != max(want, 0) {
		t.Errorf("P5: %q: Match(%q, %d) = %d, %q, %v, %d, want %d", x.Text(), s, at, to, caught, ok, e, want)
	}
	if !ok && caught != "" {
		t.Errorf("P5: %q: Match(%q, %d) fails and tells %q", x.Text(), s, at, caught)
	}
}

// matches: what a grammar answers at 0 of subjects, each with a colon and up to
// where it matches, or - if it fails, behind it.
type matches struct {
	text string
	list string
}

func checkMatches(t *testing.T, list []matches) {
	t.Helper()
	for _, f := range list {
		x := compiled(t, f.text)
		for _, pair := range strings.Fields(f.list) {
			s, to, _ := strings.Cut(pair, ":")
			want := none
			if to != "-" {
				fmt.Sscan(to, &want)
			}
			checkMatch(t, x, s, 0, want)
			// Elsewhere it is the same, whatever stands ahead.
			if want != none {
				want += 3
			}
			checkMatch(t, x, "xyb"+s, 3, want)
		}
	}
}

func TestExamplesOfMatches(t *testing.T) {
	x := compiled(t, "a<-'x'")
	checkMatch(t, x, "xy", 0, 1)
	checkMatch(t, x, "xy", 1, none)
	checkMatches(t, []matches{
		{"a <- 'a' / 'ab'", "ab:1"}, {"a <- ('a' / 'ab') 'c'", "abc:-"}, {"a <- ('ab' / 'a') 'c'", "abc:3"},
		{"a <- .* 'x'", "xx:-"}, {"a <- (!'x' .)* 'x'", "yyxx:3"},
		{"a <- {'x'*} {} {n: 'y'?}", "xxy:3"}, {"a <- {{'x'} {}}+", "xx:2"},
		{"a <- &{'x'} {'x'}", "x:1"}, {"a <- ({'x'} 'y' / 'x' {})*", "xxyx:4"},
		{"s <- {'a' s? 'b'}", "aabb:4"}, {"s <- 'a' s 'a' / 'a'", "aaaaa:3"},
		{sums, "1+2*(3-4):9"},
	})
}

func TestWordsMatch(t *testing.T) {
	checkMatches(t, []matches{
		{"a <- 'x'", ":- x:1 y:- xx:1 yx:- X:-"}, {"a <- 'xyz'", ":- x:- xy:- xyz:3 xyzz:3 xyx:- xzz:- yxyz:- xxyz:-"}, {"a <- ''", ":0 x:0"}, {"a <- 'xx'", "x:- xx:2 xxx:2"},
		{"a <- '\\'\\\\'", "'\\:2 \\':-"}, {"a <- '\\x41'", "A:1 \\x41:-"}, {"a <- 'x' 'y'", "xy:2 x:- y:- yx:-"}, {"a <- 'x' '' 'y'", "xy:2"}, {"a <- '[x]' '.' 'b'", "[x].b:5 x.b:-"},
	})
	all := ""
	for c := 0; c < 256; c++ {
		b := string([]byte{byte(c)})
		all += b
		x := compiled(t, fmt.Sprintf("a <- '\\x%02x'", c))
		for d := 0; d < 256; d++ {
			want := none
			if c == d {
				want = 1
			}
			checkMatch(t, x, string([]byte{byte(d)}), 0, want)
		}
		checkMatch(t, x, b+b, 1, 2)
		checkMatch(t, x, b, 1, none)
	}
	checkMatch(t, compiled(t, "a <- '\\xc3\\xa4'"), "\xc3\xa4", 0, 2)
	checkMatch(t, compiled(t, "a <- '\\xc3\\xa4'"), "\xc3", 0, none)
	checkMatch(t, compiled(t, "a <- '\\x00\\x00'"), "\x00\x00\x00", 1, 3)
}

func TestSetsMatchOneByte(t *testing.T) {
	for _, set := range []string{".", "[x]", "[^x]", "[a-c]", "[^a-c]", "[a-cx\\]\\-\\^\\[]", "[^a-cx\\]\\-\\^\\[]", "[\\x00]", "[\\xff]", "[^\\x00]", "[^\\xff]", "[\\x80-\\x90]", "[\\x00-\\xff]", "[^\\x00-\\xff]", "[0-9a-f]", "[+-\\-]", "[']", "[ -~]", "[zyx]"} {
		x := compiled(t, "a <- "+set)
		in := membersOf(set)
		for c := 0; c < 256; c++ {
			b := string([]byte{byte(c)})
			want := none
			if in[c] {
				want = 1
			}
			checkMatch(t, x, b, 0, want)
			checkMatch(t, x, b+b, 0, want)
			checkMatch(t, x, b, 1, none)
		}
		checkMatch(t, x, "", 0, none)
	}
	checkMatches(t, []matches{{"a <- ..", ":- x:- xy:2 xyz:2"}, {"a <- [xy][yz]", "xy:2 yz:2 xx:- zy:-"}, {"a <- .", "é:1"}})
}

func TestRowsMatch(t *testing.T) {
	checkMatches(t, []matches{
		{"a <-", ":0 x:0"}, {"a <- ()", ":0 x:0"}, {"a <- 'x' 'y' 'z'", "xyz:3 xy:- xz:- xyx:- yz:- xyzx:3"}, {"a <- 'x' () 'y'", "xy:2"}, {"a <- ('x' 'y') 'z'", "xyz:3 xy:-"}, {"a <- 'x' ('y' 'z')", "xyz:3 xy:-"}, {"a <- b c b <- 'x' c <- 'y'", "xy:2 yx:- x:-"},
	})
}

func TestTheFirstRowThatDoesNotFail(t *testing.T) {
	checkMatches(t, []matches{
		{"a <- 'x' / 'y'", "x:1 y:1 z:- :- xy:1 yx:1"}, {"a <- 'x' / 'xy'", "xy:1 x:1"}, {"a <- 'xy' / 'x'", "xy:2 x:1 xx:1"}, {"a <- 'x' / 'xy' / 'xyz'", "xyz:1"}, {"a <- 'xyz' / 'xy' / 'x'", "xyz:3 xyx:2 xx:1 z:-"},
		{"a <- / 'x'", "x:0 y:0"}, {"a <- 'x' /", "x:1 y:0 :0"}, {"a <- 'y' / / 'x'", "x:0 y:1"}, {"a <- !'x' / 'x'", "x:1 y:0"},
		// What was taken is not given back, even if what is behind fails by it.
		{"a <- ('x' / 'xy') 'z'", "xz:2 xyz:-"}, {"a <- ('x' / 'xy') 'z' / 'xyz'", "xyz:3 xz:2"}, {"a <- ('x' /) 'x'", "x:- xx:2 y:-"}, {"a <- (/ 'x') 'x'", "x:1 xx:1"}, {"a <- b 'z' b <- 'x' / 'xy'", "xz:2 xyz:-"}, {"a <- {'x' / 'xy'} 'z'", "xyz:-"},
		// A row that fails far on leaves nothing behind.
		{"a <- 'x' 'y' 'z' / 'x' 'y' / 'x'", "xyz:3 xyx:2 xx:1 y:-"}, {"a <- 'x'* 'y' / 'x' 'x'", "xxx:2 xxy:3 x:-"},
		{"a <- ('x' / 'y') ('x' / 'z')", "xx:2 xz:2 yx:2 yz:2 xy:- zx:-"}, {"a <- ('x' / 'y') / 'z'", "x:1 y:1 z:1"}, {"a <- 'x' 'y' / 'z'", "xy:2 z:1 xz:- x:-"}, {"a <- 'x' ('y' / 'z')", "xy:2 xz:2 z:- x:-"},
	})
}

func TestRepetitions(t *testing.T) {
	checkMatches(t, []matches{
		{"a <- 'x'*", ":0 y:0 x:1 xx:2 xxx:3 xxyx:2"}, {"a <- 'x'+", ":- y:- x:1 xx:2 xxx:3 xxyx:2"}, {"a <- 'x'?", ":0 y:0 x:1 xx:1"},
		{"a <- 'xy'*", "xyxyx:4 x:0 xy:2"}, {"a <- 'xy'+", "xyxyx:4 x:- xy:2"}, {"a <- 'xy'?", "xyxy:2 x:0"}, {"a <- ('x' 'y')*", "xyxyx:4 yx:0"}, {"a <- ('x' / 'y')*", "xyyxz:4"}, {"a <- ('x' / 'y')+ 'z'", "xyz:3 z:-"},
		{"a <- .*", ":0 xyz:3"}, {"a <- .+", ":- xyz:3"}, {"a <- b* b <- 'x' 'y'?", "xyxxy:5 yx:0"}, {"a <- {'x'}*", "xx:2 y:0"}, {"a <- {n: 'x'}+", "xx:2 y:-"},
		// Nothing is given back.
		{"a <- 'x'* 'x'", "x:- xx:- xxx:-"}, {"a <- 'x'+ 'x'", "x:- xx:-"}, {"a <- 'x'? 'x'", "x:- xx:2 xxx:2"}, {"a <- .* .", ":- x:- xy:-"}, {"a <- .*", "xy:2"}, {"a <- ('x' 'y')* 'x'", "x:1 xyx:3 xy:-"}, {"a <- 'x'* 'y'", "y:1 xxy:3 xx:-"}, {"a <- ('x' / 'xy')* 'z'", "xz:2 xyz:-"}, {"a <- b 'x' b <- 'x'*", "xx:-"}, {"a <- {'x'*} 'x'", "xx:-"}, {"a <- 'x'* 'x' / 'x'", "xx:1 y:-"},
		// Each sign goes for all ahead of it.
		{"a <- 'x'+*", ":0 xx:2"}, {"a <- 'x'++", ":- xx:2"}, {"a <- 'x'+?", ":0 xx:2"}, {"a <- 'x'*?", ":0 xx:2"}, {"a <- 'x'??", ":0 x:1 xx:1"}, {"a <- ('x' 'y'+)+", "xyyxy:5 xx:-"}, {"a <- ('x'+ 'y')*", "xxyxyx:5"}, {"a <- ('x'? 'y')*", "yxyyxx:4"}, {"a <- ''?", "x:0"}, {"a <- {}?", "x:0"}, {"a <- 'x'?? 'y'", "xy:2 y:1"},
	})
}

func TestLooksAhead(t *testing.T) {
	checkMatches(t, []matches{
		{"a <- &'x'", "x:0 y:- :-"}, {"a <- !'x'", "x:- y:0 :0"}, {"a <- &'x' .", "xy:1 y:-"}, {"a <- !'x' .", "x:- y:1 :-"}, {"a <- &'xy' 'x'", "xy:1 xx:-"}, {"a <- !'xy' 'x'", "xy:- xx:1 x:1"}, {"a <- 'x' &'y'", "xy:1 x:- xx:-"}, {"a <- 'x' !'y'", "xy:- x:1 xx:1"},
		{"a <- !.", ":0 x:-"}, {"a <- &.", ":- x:0"}, {"a <- .* !.", "xyz:3"}, {"a <- 'x'* !.", "xx:2 xxy:-"}, {"a <- &''", ":0 x:0"}, {"a <- !''", ":- x:-"}, {"a <- !{}", "x:-"}, {"a <- &{}", "x:0"},
		// Looks within each other.
		{"a <- !!'x'", "x:0 y:-"}, {"a <- !&'x'", "x:- y:0"}, {"a <- &!'x'", "x:- y:0"}, {"a <- &&'x'", "x:0 y:-"}, {"a <- !!!'x' .", "x:- y:1"}, {"a <- !!'x' 'x'", "x:1"}, {"a <- !(!'x' .) .*", "xy:2 yx:- :0"}, {"a <- &('x' &('y' &'z')) 'x'", "xyz:1 xy:- xyx:-"}, {"a <- !('x' !('y' !'z')) .", "xyx:1 xyz:- x:- xx:- xyzz:- xy:1 yx:1"}, {"a <- &('x' !'y') / 'x'", "xx:0 xy:1 x:0 y:-"}, {"a <- &(&'x' . 'y') 'x'", "xy:1 xx:-"},
		// A look takes nothing, however far it goes.
		{"a <- &'x'* 'x'", "xx:1 y:-"}, {"a <- &('x' 'y' 'z') 'x' 'y'", "xyz:2 xyx:-"}, {"a <- !'x'+ .", "x:- y:1"}, {"a <- &'x'? 'y'", "y:1 x:-"}, {"a <- !'x'?", "x:- y:-"}, {"a <- (&'x')? .", "x:1 y:1"}, {"a <- (!'x')? .", "x:1 y:1"}, {"a <- (!'y' .)* 'y'", "xxy:3 y:1 xx:-"}, {"a <- (&'x' .)+", "xxy:2 y:-"}, {"a <- ('x' &'y' 'y')*", "xyxyx:4"},
		{"s <- &(a 'c') 'a'+ b !.\na <- 'a' a? 'b'\nb <- 'b' b? 'c'", "aabbcc:6 abc:3 aabbc:- aabcc:- abbcc:- aabbccc:- :-"},
	})
}

func TestCatchesMatchAsWhatStandsWithin(t *testing.T) {
	checkMatches(t, []matches{
		{"a <- {}", ":0 x:0"}, {"a <- 'x' {} 'y'", "xy:2 x:-"}, {"a <- {'x'}", "x:1 y:- :-"}, {"a <- {n: 'x'}", "x:1 y:-"}, {"a <- {'x' 'y'}", "xy:2 xx:-"}, {"a <- {'x' / 'y'}", "x:1 y:1 z:-"}, {"a <- {()}", "x:0"}, {"a <- {n:}", "x:0"}, {"a <- {{'x'} {} {'y'}}", "xy:2 xx:-"}, {"a <- {'x'*} {} {n: 'y'?}", "xxy:3 xx:2 y:1 :0"}, {"a <- {a: b} b <- {a: 'x'}", "x:1 y:-"}, {"a <- {b} b <- 'x'", "x:1"},
	})
}

func TestRulesMatch(t *testing.T) {
	checkMatches(t, []matches{
		// The first rule is the one that matches, whatever its name.
		{"a <- 'x' b <- 'y'", "x:1 y:-"}, {"b <- 'y' a <- 'x'", "y:1 x:-"}, {"a <- b b <- c c <- 'x'", "x:1 y:-"}, {"c <- a b a <- 'x' b <- 'y'", "xy:2 yx:-"}, {"a <- b 'z' / b b <- 'x' / 'y'", "xz:2 yz:2 x:1 yx:1 z:-"}, {"a <- b b b <- 'x'?", "xx:2 x:1 :0"}, {"ab <- a 'b' a <- 'a' b <- 'c'", "ab:2 ac:-"}, {"a <- {b: c} b <- 'y' c <- 'x'", "x:1 y:-"},
		// Rules that name themselves and each other.
		{"a <- 'x' a / 'y'", "y:1 xy:2 xxy:3 xx:- :-"}, {"a <- 'x' a?", "x:1 xxx:3 y:-"}, {"a <- 'x' a 'y' /", "xxyy:4 xxy:0 xy:2 :0"}, {"s <- 'a' s? 'b'", "ab:2 aabb:4 aab:- abb:2 aaabbb:6"}, {"s <- 'a' s 'a' / 'a'", "a:1 aa:1 aaa:3 aaaa:1 aaaaa:3 aaaaaa:5 aaaaaaa:7 aaaaaaaa:1"},
		{"a <- b? 'y'\nb <- 'x' a", "y:1 xyy:3 xxyyy:5 xxyy:- x:-"}, {"a <- 'x' b / 'z' b <- 'y' a / 'w'", "z:1 xw:2 xyz:3 xyxw:4 xy:- xyx:-"}, {"a <- 'x' b b <- 'y' c c <- 'z' a /", "xyz:2 xy:2 xyzxy:5 xyzx:2 x:-"}, {"a <- '(' a ')' a /", "():2 (()):4 ()():4 (():0 )(:0 (()())():8"},
		{sums, "1:1 1+2:3 1+:1 1*2+3:5 (1):3 (1:- ((1+2)*3-4)*5:13 12+34*56:8 :- +:- 1+*2:1"},
	})
}

func TestWhereMatchesBegin(t *testing.T) {
	x := compiled(t, "a <- 'x' / !. / 'y' 'z'")
	for _, f := range []struct{ at, want int }{{0, 1}, {1, none}, {2, 3}, {3, 5}, {4, none}, {5, 5}} {
		checkMatch(t, x, "xyxyz", f.at, f.want)
	}
	checkMatch(t, x, "", 0, 0)
	checkMatch(t, compiled(t, "a <- .*"), "xyz", 3, 3)
	checkMatch(t, compiled(t, "a <- .+"), "xyz", 3, none)
	// What stands ahead of the place is not looked at.
	checkMatch(t, compiled(t, "a <- 'xy'"), "xxy", 2, none)
	checkMatch(t, compiled(t, "a <- 'xy'"), "xxy", 1, 3)
}

// checkWrongCall: a call that is wrong tells nothing beside.
func checkWrongCall(t *testing.T, x *grammar.Grammar, s string, at int, want api.Errno) {
	t.Helper()
	if to, caught, ok, e := x.Match(s, at); to != 0 || caught != "" || ok || e != want {
		t.Errorf("P5: on %d bytes: Match(.., %d) = %d, %q, %v, %d, want 0, \"\", false, %d", len(s), at, to, caught, ok, e, want)
	}
}

func TestPlacesThatAreNone(t *testing.T) {
	for _, text := range []string{"a <- 'x'", "a <-", "a <- .*", "a <- !.", "a <- {}", "a <- !''"} {
		x := compiled(t, text)
		for _, n := range []int{0, 1, 2, 9, api.MaxSubject - 1, api.MaxSubject} {
			s := strings.Repeat("x", n)
			for _, at := range []int{math.MinInt, -api.MaxSubject, -2, -1, n + 1, n + 2, api.MaxSubject + 1, math.MaxInt} {
				checkWrongCall(t, x, s, at, api.ErrArg)
			}
			for at := 0; at <= n; at++ {
				if _, _, _, e := x.Match(s, at); e != api.OK {
					t.Errorf("P5: %q on %d bytes: Match(.., %d) tells %d", text, n, at, e)
				}
			}
		}
	}
}

func TestMaxSubject(t *testing.T) {
	x := compiled(t, "a <- 'x'+ / 'y'")
	for _, n := range []int{1, api.MaxSubject - 1, api.MaxSubject} {
		s := strings.Repeat("x", n)
		checkMatch(t, x, s, 0, n)
		checkMatch(t, x, s, n-1, n)
		checkMatch(t, x, s, n, none)
		checkMatch(t, x, s[1:]+"y", n-1, n)
	}
	for _, n := range []int{api.MaxSubject + 1, api.MaxSubject + 2, 2 * api.MaxSubject, 1000000} {
		s := strings.Repeat("x", n)
		// Of a subject that is too long it does not matter where.
		for _, at := range []int{0, 1, n - 1, n, n + 1, -1, math.MinInt, math.MaxInt} {
			checkWrongCall(t, x, s, at, api.ErrLong)
		}
	}
	word := compiled(t, "a <- '"+strings.Repeat("x", api.MaxSubject)+"'")
	checkMatch(t, word, strings.Repeat("x", api.MaxSubject), 0, api.MaxSubject)
	checkMatch(t, word, strings.Repeat("x", api.MaxSubject-1), 0, none)
	longer := compiled(t, "a <- '"+strings.Repeat("x", api.MaxSubject+1)+"' / 'xx'")
	checkMatch(t, longer, strings.Repeat("x", api.MaxSubject), 0, 2)
}

// ring: MaxRules rules; the body of each has, for @, the name of the next, and
// that of the last has what is last for @.
func ring(body string, last string) string {
	s := ""
	for k := 0; k < api.MaxRules; k++ {
		next := last
		if k < api.MaxRules-1 {
			next = string(rune('b' + k))
		}
		s += string(rune('a'+k)) + "<-" + strings.ReplaceAll(body, "@", next) + "\n"
	}
	return s
}

// Grammars and subjects at their bounds. If nothing were noted, most of them
// would take longer than anybody waits.
func TestMatchesAtTheBounds(t *testing.T) {
	full := strings.Repeat("x", api.MaxSubject)
	almost := full[1:] + "y"
	for _, f := range []struct {
		text, s string
		want    int
	}{
		// Rules that name the next one many times, at one place.
		{ring("&@&@&@&@&@&@&@&@&@&@&@&@ @", "'x'"), full, 1}, {ring("!!@!!@!!@!!@!!@!!@!!@!!@ @", "'x'"), full, 1}, {ring("@'y'/@'y'/@'y'/@'y'/@'y'", "'x'"), full, none}, {ring("@'y'/@'y'/@'y'/@'y'/@'y'/@", "'x'"), full, 1}, {ring("@ @ @ @ @ @ @ @ @ @ @ @ @", "''"), full, 0}, {ring("@ @ @ @ @ @ @ @ @ @ @ @ @", "'x'"), full, none}, {ring("@?@?@?@?@?@?@?@?@?@?@?@?", "'x'"), full, api.MaxSubject},
		// And from place to place, back to the first.
		{ring("'x'@'y'/'x'@'z'/'x'@/'x'", "a"), full, api.MaxSubject}, {ring("'x'@'y'/'x'@'z'/'x'@/'y'", "a"), full, none}, {ring("'x'@'y'/'x'@'z'/'x'@/'y'", "a"), almost, api.MaxSubject}, {ring("&('x'@)'x'@/'x'/'y'", "a"), almost, api.MaxSubject}, {ring("!('x'@'z')'x'@/'x'/'y'", "a"), almost, api.MaxSubject}, {ring("'x'@ @/'x'@/'x'", "a"), full, api.MaxSubject},
		{"s<-'x's'y'/'x's'z'/'x's'w'/'x's/'x'", full, api.MaxSubject}, {"s<-'x's s s/'x's s/'x's/'x'", full, api.MaxSubject}, {"s<-'x's s 'y'/'x's 'y'/'x's/'x'", full, api.MaxSubject},
		// Repetitions and looks within each other.
		{"a<-" + strings.Repeat("(", api.MaxDepth) + "'x'" + strings.Repeat("*'y'/.)", api.MaxDepth) + "*", full, api.MaxSubject}, {"a<-" + strings.Repeat("(&(", api.MaxDepth/2) + "'x'" + strings.Repeat("+/'y').)", api.MaxDepth/2) + "*", almost, api.MaxSubject}, {"a<-" + strings.Repeat("(!(", api.MaxDepth/2) + "'x'" + strings.Repeat("*'z').)", api.MaxDepth/2) + "*", almost, api.MaxSubject}, {"a<-" + strings.Repeat("(", api.MaxDepth) + "'x'" + strings.Repeat("+)", api.MaxDepth) + "+", full, api.MaxSubject}, {"a<-" + strings.Repeat("(", api.MaxDepth) + ".+" + strings.Repeat("'y'/'x')+", api.MaxDepth), full, api.MaxSubject},
		// Long rows and choices, and many signs.
		{"a<-" + strings.Repeat(".", api.MaxSubject), full, api.MaxSubject}, {"a<-" + strings.Repeat(".", api.MaxSubject+1), full, none}, {"a<-" + strings.Repeat(".", api.MaxText-3), full, none}, {"a<-" + strings.Repeat(".?", (api.MaxText-3)/2), full, api.MaxSubject}, {"a<-" + strings.Repeat("'y'/", (api.MaxText-3)/4), full, 0}, {"a<-" + strings.Repeat("!", api.MaxText-4) + ".", full, 0}, {"a<-" + strings.Repeat("!", api.MaxText-5) + ".", full, none}, {"a<-." + strings.Repeat("+", api.MaxText-4), full, api.MaxSubject}, {"a<-." + strings.Repeat("?", api.MaxText-4), full, 1},
	} {
		if len(f.text) > api.MaxText {
			t.Fatalf("%q has %d bytes", f.text, len(f.text))
		}
		checkMatch(t, compiled(t, f.text), f.s, 0, f.want)
	}
}
