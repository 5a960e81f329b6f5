package grammar_test

import (
	"fmt"
	"regexp"
	"strings"
	"testing"

	"peg/api"
	"peg/grammar"
)

// checkCaught: what a grammar catches that matches up to a place.
func checkCaught(t *testing.T, x *grammar.Grammar, s string, at int, to int, want string) {
	t.Helper()
	got, caught, ok, e := x.Match(s, at)
	if got != to || caught != want || !ok || e != api.OK {
		t.Errorf("P6: %q: Match(%q, %d) = %d, %q, %v, %d, want %d, %q", x.Text(), s, at, got, caught, ok, e, to, want)
	}
}

// failing: instead of what is caught, if the match fails.
const failing = "fails"

// catches: what a grammar catches at 0 of subjects; each stands ahead of what
// is caught in it.
type catches struct {
	text  string
	pairs []string
}

func checkCatches(t *testing.T, list []catches) {
	t.Helper()
	for _, f := range list {
		x := compiled(t, f.text)
		for i := 0; i+1 < len(f.pairs); i += 2 {
			// Elsewhere it is the same, but for the numbers; at the last, too,
			// where it has room.
			for _, n := range []int{0, 1, 3, 9, 10, api.MaxSubject - len(f.pairs[i])} {
				checkCatch(t, x, f.pairs[i], n, f.pairs[i+1])
			}
		}
	}
}

func checkCatch(t *testing.T, x *grammar.Grammar, s string, n int, want string) {
	t.Helper()
	whole := strings.Repeat("yxb", n)[:n] + s
	_, caught, ok, e := x.Match(whole, n)
	if want == failing {
		if caught != "" || ok || e != api.OK {
			t.Errorf("P6: %q: Match(%q, %d) tells %q, %v, %d, but it fails", x.Text(), whole, n, caught, ok, e)
		}
		return
	}
	if want = further(want, n); caught != want || !ok || e != api.OK {
		t.Errorf("P6: %q: Match(%q, %d) tells %q, %v, %d, want %q", x.Text(), whole, n, caught, ok, e, want)
	}
}

var namesAndNumbers = regexp.MustCompile(`[a-z][a-z0-9]*=|[0-9]+`)

// further: what is caught, with all numbers greater by n.
func further(caught string, n int) string {
	return namesAndNumbers.ReplaceAllStringFunc(caught, func(s string) string {
		if strings.HasSuffix(s, "=") {
			return s
		}
		var number int
		fmt.Sscan(s, &number)
		return fmt.Sprint(number + n)
	})
}

func TestExamplesOfCaught(t *testing.T) {
	checkCaught(t, compiled(t, "a <- {'x'*} {} {n: 'y'?}"), "xxy", 0, 3, "0-2 2 n=2-3")
	checkCaught(t, compiled(t, "a <- {{'x'} {}}+"), "xx", 0, 2, "0-1(0-1 1) 1-2(1-2 2)")
	checkCaught(t, compiled(t, "a <- &{'x'} {'x'}"), "x", 0, 1, "0-1")
	checkCaught(t, compiled(t, "a <- ({'x'} 'y' / 'x' {})*"), "xxyx", 0, 4, "1 1-2 4")
	checkCaught(t, compiled(t, "s <- {'a' s? 'b'}"), "aabb", 0, 4, "0-4(1-3)")
	checkCaught(t, compiled(t, "s <- 'a' s 'a' / 'a'"), "aaaaa", 0, 3, "")
	checkCaught(t, compiled(t, sums), "1+2*(3-4)", 0, 9, "s=0-9(p=0-1(0-1) p=2-9(2-3 s=5-8(p=5-6(5-6) p=7-8(7-8))))")
}

// Numbers of one digit and of two, and no digit too many.
func TestEveryPlaceIsCaught(t *testing.T) {
	place := compiled(t, "a <- {}")
	one := compiled(t, "a <- {n: .}")
	rest := compiled(t, "a <- {.* {}} {}")
	full := strings.Repeat("x", api.MaxSubject)
	for at := 0; at <= len(full); at++ {
		checkCaught(t, place, full, at, at, fmt.Sprint(at))
		checkCaught(t, rest, full, at, 60, fmt.Sprintf("%d-60(60) 60", at))
		if at < len(full) {
			checkCaught(t, one, full, at, at+1, fmt.Sprintf("n=%d-%d", at, at+1))
		}
	}
}

func TestPlacesAreCaught(t *testing.T) {
	checkCatches(t, []catches{
		{"a <- {}", []string{"", "0", "x", "0"}},
		{"a <- { }", []string{"x", "0"}},
		{"a <- 'x' {}", []string{"x", "1", "xx", "1", "y", failing}},
		{"a <- {} 'x'", []string{"x", "0", "", failing}},
		{"a <- {} 'x' {} 'yy' {}", []string{"xyy", "0 1 3", "xy", failing}},
		{"a <- {} {} {}", []string{"x", "0 0 0"}},
		{"a <- {}{}'x'{}{}", []string{"x", "0 0 1 1"}},
		{"a <- ({}) (('x' {}))", []string{"x", "0 1"}},
	})
}

func TestPartsAreCaught(t *testing.T) {
	checkCatches(t, []catches{
		{"a <- {'x'}", []string{"x", "0-1", "xx", "0-1", "y", failing, "", failing}},
		{"a <- {'xyz'}", []string{"xyz", "0-3", "xyzz", "0-3", "xy", failing}},
		{"a <- 'x' {'y' 'z'} 'x'", []string{"xyzx", "1-3", "xyz", failing}},
		{"a <- {.*}", []string{"", "0-0", "xyz", "0-3"}},
		{"a <- {'x'} {'y'}", []string{"xy", "0-1 1-2"}},
		{"a <- {('x')}", []string{"x", "0-1"}},
		{"a <- ({'x'})", []string{"x", "0-1"}},
		{"a <- {[xy]} {.}", []string{"yz", "0-1 1-2"}},
		// With a name.
		{"a <- {n: 'x'}", []string{"x", "n=0-1", "y", failing}},
		{"a <- { n : 'x' }", []string{"x", "n=0-1"}},
		{"a <- {n: 'x'} {m: 'y'} {'z'} {n: 'x'}", []string{"xyzx", "n=0-1 m=1-2 2-3 n=3-4"}},
		{"a <- {a1:'x'} {b23c4:'y'}", []string{"xy", "a1=0-1 b23c4=1-2"}},
		{"a <- {abcdefgh: 'x'} {z: 'y'}", []string{"xy", "abcdefgh=0-1 z=1-2"}},
		{"a <- {a: 'x'} {a: b} b <- {b: 'y'}", []string{"xy", "a=0-1 a=1-2(b=1-2)"}},
		// A name without a colon behind it is one of a rule.
		{"a <- {b} b <- 'x'", []string{"x", "0-1"}},
		{"a <- {b c} b <- 'x' c <- 'y'", []string{"xy", "0-2"}},
		{"a <- {b: c} b <- 'y' c <- 'x'", []string{"x", "b=0-1", "y", failing}},
		// Of no bytes.
		{"a <- {''}", []string{"", "0-0", "x", "0-0"}},
		{"a <- {()}", []string{"x", "0-0"}},
		{"a <- {n:}", []string{"x", "n=0-0"}},
		{"a <- 'x' {n: ''} {'y'*} 'z'", []string{"xz", "n=1-1 1-1", "xyz", "n=1-1 1-2"}},
		{"a <- {'x'?} {!'x'} {n: &'y'}", []string{"y", "0-0 0-0 n=0-0", "xy", "0-1 1-1 n=1-1", "xx", failing}},
		{"a <- {'x' /}", []string{"x", "0-1", "y", "0-0"}},
		{"a <- {b} b <-", []string{"x", "0-0"}},
	})
}

func TestWhatIsCaughtWithin(t *testing.T) {
	checkCatches(t, []catches{
		{"a <- {{}}", []string{"", "0-0(0)"}},
		{"a <- {{'x'}}", []string{"x", "0-1(0-1)"}},
		{"a <- {n: {}}", []string{"x", "n=0-0(0)"}},
		{"a <- {n: {m: 'x'}}", []string{"x", "n=0-1(m=0-1)"}},
		{"a <- {n: {n: {n:}}}", []string{"x", "n=0-0(n=0-0(n=0-0))"}},
		{"a <- {{{{'x'}}}}", []string{"x", "0-1(0-1(0-1(0-1)))"}},
		{"a <- {'x' {'y'} 'z'}", []string{"xyz", "0-3(1-2)"}},
		{"a <- {{} 'x' {}}", []string{"x", "0-1(0 1)"}},
		{"a <- {{'x'} {'y'} {}}", []string{"xy", "0-2(0-1 1-2 2)"}},
		{"a <- {{'x'}} {{'y'}}", []string{"xy", "0-1(0-1) 1-2(1-2)"}},
		{"a <- {{'x'} {}} {} {{} {{'y'} {}} {}} {}", []string{"xy", "0-1(0-1 1) 1 1-2(1 1-2(1-2 2) 2) 2"}},
		{"a <- {n: {'x'} {m: {}}} {}", []string{"x", "n=0-1(0-1 m=1-1(1)) 1"}},
		{"a <- {{'x'} 'y' {{{}}} 'z'} 'z' {}", []string{"xyzz", "0-3(0-1 2-2(2-2(2))) 4"}},
		{"a <- {{'x'}* {}}", []string{"xx", "0-2(0-1 1-2 2)", "", "0-0(0)"}},
		{"a <- {{'x'}? 'y'}", []string{"xy", "0-2(0-1)", "y", "0-1"}},
		{"a <- {{'x'} / {} 'y'}", []string{"x", "0-1(0-1)", "y", "0-1(0)", "z", failing}},
		// If nothing is caught within, there are no brackets.
		{"a <- {'x' 'y'*} {}", []string{"xy", "0-2 2"}},
		{"a <- {&{'x'} 'x' !{'x'}}", []string{"xy", "0-1"}},
		{"a <- {{'x'}*}", []string{"y", "0-0", "x", "0-1(0-1)"}},
		{"a <- {{'x'}* 'y'} {{'x'}?}", []string{"y", "0-1 1-1", "yx", "0-1 1-2(1-2)", "xy", "0-2(0-1) 2-2"}},
	})
}

func TestRowsCatchInOrder(t *testing.T) {
	checkCatches(t, []catches{
		{"a <- {'x'} {} {n: 'y'} {} {'z'}", []string{"xyz", "0-1 1 n=1-2 2 2-3"}},
		{"a <- {n: 'x'} {m: 'y'}", []string{"xy", "n=0-1 m=1-2"}},
		{"a <- {m: 'x'} {n: 'y'}", []string{"xy", "m=0-1 n=1-2"}},
		{"a <- 'x' ({'y'} {}) ({'z'})", []string{"xyz", "1-2 2 2-3"}},
		{"a <- {'x'} 'y' 'z' {}", []string{"xyz", "0-1 3"}},
		// A row that fails catches nothing, however far it came.
		{"a <- {'x'} {} {n: 'y'} 'z'", []string{"xyz", "0-1 1 n=1-2", "xyx", failing, "xy", failing, "x", failing, "", failing}},
		{"a <- {} !.", []string{"", "0", "x", failing}},
		{"a <- ({'x'} {} 'y')? {'x'}", []string{"x", "0-1", "xyx", "0-1 1 2-3", "xyy", failing}},
		{"a <- {{'x'} {} 'y'}? {}", []string{"x", "0", "xy", "0-2(0-1 1) 2"}},
	})
}

func TestChoicesCatch(t *testing.T) {
	checkCatches(t, []catches{
		{"a <- {n: 'x'} / {m: 'y'}", []string{"x", "n=0-1", "y", "m=0-1", "z", failing}},
		{"a <- {n: 'x'} / {m: 'x'}", []string{"x", "n=0-1"}},
		{"a <- {n: 'x'} / {m: 'xy'}", []string{"xy", "n=0-1"}},
		{"a <- {n: 'xy'} / {m: 'x'}", []string{"xy", "n=0-2", "x", "m=0-1"}},
		{"a <- 'x' / {'x'}", []string{"x", ""}},
		{"a <- {'x'} / 'y'", []string{"x", "0-1", "y", ""}},
		{"a <- {} / 'x'", []string{"x", "0"}},
		{"a <- 'x' {} / {}", []string{"x", "1", "y", "0"}},
		{"a <- / {}", []string{"x", ""}},
		{"a <- {'x'} /", []string{"x", "0-1", "y", ""}},
		// Of a row that fails nothing is left over.
		{"a <- {'x'} {} 'y' / 'x' {} 'z' / {'x' {}}", []string{"xy", "0-1 1", "xz", "1", "xx", "0-1(1)", "y", failing}},
		{"a <- {n: {'x'} 'y'} / {m: 'x' {'z'}} / {}", []string{"xy", "n=0-2(0-1)", "xz", "m=0-2(1-2)", "xx", "0"}},
		{"a <- {{'x'} 'y' / 'x'}", []string{"xy", "0-2(0-1)", "x", "0-1"}},
		{"a <- ({'x'} {} 'y' / {'x'}) {}", []string{"xy", "0-1 1 2", "x", "0-1 1"}},
		{"a <- ({'x'} / {n: 'xy'}) {'z'} / {m: .}", []string{"xz", "0-1 1-2", "xyz", "m=0-1"}},
		{"a <- ({'x'} / {'y'}) / {'z'}", []string{"y", "0-1", "z", "0-1"}},
		{"a <- ({n:'x'} / {m:'y'}) ({n:'x'} / {m:'y'})", []string{"xy", "n=0-1 m=1-2", "yx", "m=0-1 n=1-2", "xz", failing}},
	})
}

func TestRepetitionsCatch(t *testing.T) {
	checkCatches(t, []catches{
		{"a <- {'x'}*", []string{"", "", "y", "", "x", "0-1", "xxx", "0-1 1-2 2-3", "xxy", "0-1 1-2"}},
		{"a <- {'x'}+", []string{"", failing, "y", failing, "x", "0-1", "xxx", "0-1 1-2 2-3"}},
		{"a <- {'x'}?", []string{"", "", "y", "", "x", "0-1", "xxx", "0-1"}},
		{"a <- {}?", []string{"x", "0"}},
		{"a <- {'x'*}", []string{"xx", "0-2", "y", "0-0"}},
		{"a <- ({} 'x')*", []string{"xx", "0 1", "y", ""}},
		{"a <- ('x' {})+ {}", []string{"xx", "1 2 2", "y", failing}},
		{"a <- ({n: 'x'} {m: 'y'})*", []string{"xyxy", "n=0-1 m=1-2 n=2-3 m=3-4"}},
		{"a <- ({n: 'x'} / {m: 'y'})+", []string{"xyyx", "n=0-1 m=1-2 m=2-3 n=3-4"}},
		// Of the last round, which fails, nothing is left over.
		{"a <- ({'x'} {} 'y')*", []string{"xyxyx", "0-1 1 2-3 3", "x", "", "xyxx", "0-1 1"}},
		{"a <- ({'x'} {} 'y')+", []string{"xyxyx", "0-1 1 2-3 3", "x", failing}},
		{"a <- ({'x'} {} 'y')?", []string{"xyxy", "0-1 1", "x", ""}},
		{"a <- {{'x'} {} 'y'}* {}", []string{"xyx", "0-2(0-1 1) 2", "x", "0"}},
		{"a <- ({'x'} 'y' {})* {'x'}", []string{"xyx", "0-1 2 2-3", "x", "0-1", "xy", failing}},
		{"a <- (b 'z')* {} b <- {'x'} {'y'}", []string{"xyzxy", "0-1 1-2 3", "xy", "0"}},
		// Within each other.
		{"a <- {'x'}+*", []string{"xx", "0-1 1-2", "", ""}},
		{"a <- {'x'}*?", []string{"xx", "0-1 1-2", "", ""}},
		{"a <- {'x'}+?", []string{"xx", "0-1 1-2", "", ""}},
		{"a <- {'x'}++", []string{"xx", "0-1 1-2", "", failing}},
		{"a <- {'x'}??", []string{"xx", "0-1", "", ""}},
		{"a <- ({'x'}+ {'y'})*", []string{"xxyxyx", "0-1 1-2 2-3 3-4 4-5"}},
		{"a <- {{'x'}+ {n: 'y'}}+ {}", []string{"xxyxyx", "0-3(0-1 1-2 n=2-3) 3-5(3-4 n=4-5) 5"}},
		{"a <- {({'x'} 'y'*)*}", []string{"xyxxyy", "0-6(0-1 2-3 3-4)", "y", "0-0"}},
		{"a <- ({'x'}? {'y'}? 'z')*", []string{"zxzyzxyz", "1-2 3-4 5-6 6-7"}},
	})
}

func TestLooksCatchNothing(t *testing.T) {
	checkCatches(t, []catches{
		{"a <- &{'x'}", []string{"x", "", "y", failing}},
		{"a <- !{'x'}", []string{"y", "", "x", failing}},
		{"a <- &{}", []string{"x", ""}},
		{"a <- !{}", []string{"x", failing}},
		{"a <- &{'x'} {'x'}", []string{"x", "0-1"}},
		{"a <- !{'x'} {.}", []string{"y", "0-1"}},
		{"a <- {&{'x'} .}", []string{"x", "0-1"}},
		{"a <- {&'x'}", []string{"x", "0-0"}},
		{"a <- {n: !'x'} {}", []string{"y", "n=0-0 0"}},
		{"a <- {'x'} &{'y'} {}", []string{"xy", "0-1 1", "xx", failing}},
		{"a <- {'x'} !{'y'} {}", []string{"xx", "0-1 1", "xy", failing}},
		{"a <- &({'x'} {} {n: 'y'}) {}", []string{"xy", "0"}},
		{"a <- !({'x'} {} 'y') {'x'}", []string{"xx", "0-1", "xy", failing}},
		{"a <- &b b b <- {'x'} {}", []string{"x", "0-1 1"}},
		{"a <- !b {.} b <- {'x'} {}", []string{"y", "0-1", "x", failing}},
		// Within each other.
		{"a <- !!{'x'}", []string{"x", "", "y", failing}},
		{"a <- &&{'x'} {}", []string{"x", "0"}},
		{"a <- !&{'x'} {}", []string{"y", "0"}},
		{"a <- &!{'x'} {}", []string{"y", "0"}},
		{"a <- !!!{'x'} {}", []string{"y", "0"}},
		{"a <- &({'x'} &({'y'} {})) {'x'}", []string{"xy", "0-1"}},
		{"a <- !({'x'} !({'y'} {})) {.}", []string{"xy", "0-1", "y", "0-1", "xx", failing}},
		{"a <- !!({} {'x'} !{'y'}) {}", []string{"xx", "0", "xy", failing}},
		// In repetitions and choices.
		{"a <- (!{'y'} {.})* {}", []string{"xxy", "0-1 1-2 2", "y", "0"}},
		{"a <- (&{'x'} {} .)*", []string{"xxy", "0 1"}},
		{"a <- (&{'x'})? {}", []string{"x", "0", "y", "0"}},
		{"a <- &({'x'}*) {} 'x'", []string{"xx", "0"}},
		{"a <- &({'x'} / {'y'}) {} / {n:}", []string{"y", "0", "z", "n=0-0"}},
		{"a <- &{'x'} 'y' / {'x'} / !{'x'} {}", []string{"x", "0-1", "y", "0"}},
		{"a <- &{n: {'x'}} {m: {'x'}}", []string{"x", "m=0-1(0-1)"}},
	})
}

func TestRulesCatch(t *testing.T) {
	checkCatches(t, []catches{
		{"a <- b b <- {'x'}", []string{"x", "0-1"}},
		{"a <- b b b <- {'x'}", []string{"xx", "0-1 1-2"}},
		{"a <- b c b b <- {n: 'x'} c <- {} 'y'", []string{"xyx", "n=0-1 1 n=2-3"}},
		{"a <- {b} b <- {'x'}", []string{"x", "0-1(0-1)"}},
		{"a <- b b <- c c <- {} d d <- {'x'} {}", []string{"x", "0 0-1 1"}},
		{"b <- {n: a} a <- {m: 'x'}", []string{"x", "n=0-1(m=0-1)"}},
		{"a <- b 'y' / b 'z' / b b <- {'x'} {}", []string{"xy", "0-1 1", "xz", "0-1 1", "x", "0-1 1"}},
		{"a <- b {} b <- {'x'} 'y' / 'x'", []string{"xy", "0-1 2", "xx", "1"}},
		// The same rule at the same place, told each time.
		{"a <- b b 'x' b b <- {}", []string{"x", "0 0 1"}},
		{"a <- b b b b <- c c c <- {} {n:}", []string{"x", "0 n=0-0 0 n=0-0 0 n=0-0 0 n=0-0 0 n=0-0 0 n=0-0"}},
		{"a <- {b} {b} {m: b} b <- {}", []string{"x", "0-0(0) 0-0(0) m=0-0(0)"}},
		{"a <- b {} b {} b b <- ''", []string{"x", "0 0"}},
		{"a <- b 'x' b b <- &'x' / {}", []string{"xy", "1", "xx", ""}},
		{"a <- b 'x' b 'x' b b <- {'y'}?", []string{"xxy", "2-3", "yxyxy", "0-1 2-3 4-5", "xyx", "1-2"}},
		// Rules that name themselves and each other.
		{"a <- {'x'} a / {}", []string{"xx", "0-1 1-2 2", "", "0"}},
		{"a <- {'x' a / {}}", []string{"xx", "0-2(1-2(2-2(2)))"}},
		{"a <- 'x' a {} /", []string{"xxx", "3 3 3", "", ""}},
		{"a <- 'x' a 'y' {} / {}", []string{"xxyy", "2 3 4", "xxy", "0", "", "0"}},
		{"s <- {'a' s? 'b'}", []string{"ab", "0-2", "aaabbb", "0-6(1-5(2-4))", "aab", failing}},
		{"s <- {'a'} s {'a'} / {n: 'a'}", []string{"aaaaa", "0-1 n=1-2 2-3", "aaa", "0-1 n=1-2 2-3", "aa", "n=0-1"}},
		{"a <- {b? 'y'} b <- 'x' a {}", []string{"xxyyy", "0-5(1-4(2-3 3) 4)", "y", "0-1", "xy", failing}},
		{"a <- {a: 'x' b} / {'z'} b <- {b: 'y' a} / {}", []string{"xyx", "a=0-3(b=1-3(a=2-3(3)))", "xyz", "a=0-3(b=1-3(2-3))", "xy", "a=0-1(1)"}},
		{"a <- '(' {a} ')' a /", []string{"(())()", "1-3(2-2) 5-5", "(()", ""}},
		{sums, []string{"1", "s=0-1(p=0-1(0-1))", "1+", "s=0-1(p=0-1(0-1))", "12*3", "s=0-4(p=0-4(0-2 3-4))", "(1)", "s=0-3(p=0-3(s=1-2(p=1-2(1-2))))", "(1", failing}},
	})
}

func TestNothingIsCaught(t *testing.T) {
	checkCatches(t, []catches{
		{"a <- 'x'", []string{"x", ""}},
		{"a <-", []string{"x", ""}},
		{"a <- 'x'* [yz]+ .? !.", []string{"xyz", ""}},
		{"a <- b c b <- 'x' c <- 'y' / b", []string{"xy", "", "xx", ""}},
		{"a <- b / 'y' b <- 'x' a", []string{"xxy", ""}},
		{"a <- 'x' b <- {'y'}", []string{"x", ""}},
		{"a <- 'x' / {'y'}", []string{"x", "", "y", "0-1"}},
		{"a <- &{'x'} . ({'y'} 'z')* ({'y'} 'z')? 'y'", []string{"xy", ""}},
	})
}

// Calls that are wrong, or that fail, tell nothing of what is caught; the
// nearest ones that are not tell it.
func TestNothingIsToldOfWrongCalls(t *testing.T) {
	x := compiled(t, "a <- {n: .* {}} {}")
	for _, n := range []int{0, 1, 9, api.MaxSubject} {
		s := strings.Repeat("x", n)
		for _, at := range []int{-1, n + 1, -n - 1, 2*n + 1} {
			checkWrongCall(t, x, s, at, api.ErrArg)
		}
		checkCaught(t, x, s, 0, n, fmt.Sprintf("n=0-%d(%d) %d", n, n, n))
		checkCaught(t, x, s, n, n, fmt.Sprintf("n=%d-%d(%d) %d", n, n, n, n))
	}
	long := strings.Repeat("x", api.MaxSubject+1)
	for _, at := range []int{-1, 0, 1, len(long), len(long) + 1} {
		checkWrongCall(t, x, long, at, api.ErrLong)
	}
	y := compiled(t, "a <- {n: 'x'*} {} 'y'")
	full := strings.Repeat("x", api.MaxSubject)
	checkMatch(t, y, full, 0, none)
	checkMatch(t, y, full, len(full), none)
	checkCaught(t, y, full[1:]+"y", 0, 60, "n=0-59 59")
	checkCaught(t, y, full[1:]+"y", 59, 60, "n=59-59 59")
}

// What is caught is told again, whatever was matched between.
func TestCaughtAgain(t *testing.T) {
	x := compiled(t, sums)
	y := compiled(t, "a <- ({'x'} / {n: 'y'} {})*")
	for k := 0; k < 3; k++ {
		checkCaught(t, x, "1+2", 0, 3, "s=0-3(p=0-1(0-1) p=2-3(2-3))")
		checkCaught(t, y, "xyx", 0, 3, "0-1 n=1-2 2 2-3")
		checkMatch(t, x, "+", 0, none)
		checkCaught(t, y, "xyx", 1, 3, "n=1-2 2 2-3")
		checkCaught(t, x, "1*2", 0, 3, "s=0-3(p=0-3(0-1 2-3))")
		checkCaught(t, y, "", 0, 0, "")
	}
}

// times: what is caught n times, one behind the other.
func times(n int, caught string) string {
	return strings.TrimSuffix(strings.Repeat(caught+" ", n), " ")
}

// each: what is caught at each place of a full subject, written for the places
// at % and behind it.
func each(form string) string {
	var list []string
	for at := 0; at < api.MaxSubject; at++ {
		s := strings.ReplaceAll(form, "%%", fmt.Sprint(at+1))
		list = append(list, strings.ReplaceAll(s, "%", fmt.Sprint(at)))
	}
	return strings.Join(list, " ")
}

// nested: parts within each other, n at each place of a full subject, each up
// to the end.
func nested(n int, name string) string {
	s := ""
	for at := 0; at < api.MaxSubject; at++ {
		s += strings.Repeat(fmt.Sprintf("(%s%d-%d", name, at, api.MaxSubject), n)
	}
	return s[1:] + strings.Repeat(")", n*api.MaxSubject-1)
}

// halves: parts within each other, each but those at the last with two within.
func halves(depth int, last string) string {
	if depth == 0 {
		return last
	}
	within := halves(depth-1, last)
	return "0-0(" + within + " " + within + ")"
}

func checkBound(t *testing.T, text string, to int, want string) {
	t.Helper()
	if len(text) > api.MaxText {
		t.Fatalf("%q has %d bytes", text, len(text))
	}
	got, caught, ok, e := compiled(t, text).Match(strings.Repeat("x", api.MaxSubject), 0)
	if got != to || !ok || e != api.OK {
		t.Errorf("P5: %q = %d, %v, %d, want %d", text, got, ok, e, to)
	}
	if caught != want {
		t.Errorf("P6: %q tells %d bytes, %.200q, want %d, %.200q", text, len(caught), caught, len(want), want)
	}
}

// parted: something in parts within each other.
func parted(n int, name string, within string) string {
	return strings.Repeat("{"+name, n) + within + strings.Repeat("}", n)
}

func TestMuchIsCaught(t *testing.T) {
	for _, f := range []struct {
		text string
		to   int
		want string
	}{
		// Rows and repetitions.
		{"a<-" + strings.Repeat("{}", 198), 0, times(198, "0")},
		{"a<-" + strings.Repeat("{.}", 60), 60, each("%-%%")},
		{"a<-({}.)*{}", 60, each("%") + " 60"},
		{"a<-{.}*", 60, each("%-%%")},
		{"a<-{abcdefgh:{}.}+", 60, each("abcdefgh=%-%%(%)")},
		{"a<-{.}" + strings.Repeat("+", 394), 60, each("%-%%")},
		{"a<-{}" + strings.Repeat("?", 395), 0, "0"},
		{"a<-(" + strings.Repeat("'y'{}/", 60) + "{.})*", 60, each("%-%%")},
		// Parts within each other.
		{"a<-" + parted(12, "n:", ".*"), 60, "n=0-60" + strings.Repeat("(n=0-60", 11) + strings.Repeat(")", 11)},
		{"a<-" + parted(12, "", ".") + "*", 60, each("%-%%" + strings.Repeat("(%-%%", 11) + strings.Repeat(")", 11))},
		{"a<-{abcdefgh:.a?}", 60, nested(1, "abcdefgh=")},
		{ring("{@}", "{.a?}"), 60, nested(13, "")},
		{ring(parted(11, "", "@"), ".a?"), 60, nested(132, "")},
		// Rules that name the next one many times.
		{ring("@ @", "{}"), 0, times(4096, "0")},
		{ring("@ @ @", "{n:}"), 0, times(531441, "n=0-0")},
		{ring("{@ @}", "{}"), 0, halves(12, "0")},
		{ring("{@ @}", "{n:'y'*}"), 0, halves(12, "n=0-0")},
		{ring("{}@", ".a?"), 60, each(times(12, "%"))},
	} {
		checkBound(t, f.text, f.to, f.want)
	}
}

// led: a ring, but for its first rule, which has for @ the name of the second.
func led(first string, body string, last string) string {
	s := ring(body, last)
	return "a<-" + strings.ReplaceAll(first, "@", "b") + s[strings.IndexByte(s, '\n'):]
}

// What catches more than any machine holds, but fails, is not taken, or is
// looked at: nothing is told of it, and it takes no time. Nor does what is gone
// through so often, and catches nothing.
func TestMuchIsNotCaught(t *testing.T) {
	const many = "@ @ @ @ @ @ @ @ @ @ @ @"
	for _, f := range []struct {
		text string
		to   int
		want string
	}{
		{led("@'y'/{'x'}", many, "{}"), 1, "0-1"},
		{led("{n:@'y'}/@ @'z'/{n:{'x'}}", many, "{}"), 1, "n=0-1(0-1)"},
		{led("(@'y'){}/.{}", many, "{}"), 1, "1"},
		{led("{}/@", many, "{}"), 0, "0"},
		{led("&@{'x'}", many, "{}"), 1, "0-1"},
		{led("!!@{'x'}", many, "{}"), 1, "0-1"},
		{led("!(@'y'){&{@}}", many, "{}"), 0, "0-0"},
		{led("(&@.)*{}", many, "{}"), 60, "60"},
		{led("(@'y')*{}", many, "{}"), 0, "0"},
		{led("{(@'y')?}", many, "{}"), 0, "0-0"},
		{led("({.}!(@'y')/@'y')+", many, "{}"), 60, each("%-%%")},
		{ring(many, "''"), 0, ""},
		{ring(many, "&{}"), 0, ""},
		{ring(many, "!{'y'}"), 0, ""},
		{ring(many, "{'y'}?"), 0, ""},
		{ring(many, "{'y'}*"), 0, ""},
		{ring(many, "(/{})"), 0, ""},
		{ring("@?@?@?@?@?@?@?@?@?@?@?@?", "{'y'}"), 0, ""},
		{led("@{}@{@}@", many, "''"), 0, "0 0-0"},
		{led("(@ .{}@)*", many, "''"), 60, each("%%")},
		{led("({@ .@}@)*", many, "&{}"), 60, each("%-%%")},
	} {
		checkBound(t, f.text, f.to, f.want)
	}
	full := strings.Repeat("x", api.MaxSubject)
	checkMatch(t, compiled(t, led("@'y'", many, "{}")), full, 0, none)
	checkMatch(t, compiled(t, led("{n:@}'y'/@!@", many, "{}")), full, 0, none)
}
