package grammar_test

import (
	"fmt"
	"strings"
	"testing"

	"peg/api"
	"peg/grammar"
)

// checkRight: a text that has a grammar, of rules of these names.
func checkRight(t *testing.T, s string, names ...string) {
	t.Helper()
	x, e, at := grammar.Compile(s)
	if x == nil || e != api.OK || at != 0 {
		t.Errorf("P3: Compile(%q) = %v, %d, %d, want a grammar, 0, 0", s, x, e, at)
		return
	}
	got := x.Rules()
	if len(got) != len(names) || strings.Join(got, " ") != strings.Join(names, " ") {
		t.Errorf("P3: the rules of %q are %q, want %q", s, got, names)
	}
}

// checkFine: texts that have a grammar; their tokens have blanks between.
func checkFine(t *testing.T, list ...string) {
	t.Helper()
	for _, s := range list {
		var names []string
		words := strings.Fields(s)
		for i, w := range words {
			if w == "<-" {
				names = append(names, words[i-1])
			}
		}
		checkRight(t, s, names...)
	}
}

// checkFault: texts that are wrong at the place of the @, which is not theirs.
func checkFault(t *testing.T, e api.Errno, list ...string) {
	t.Helper()
	for _, marked := range list {
		at := strings.Index(marked, "@")
		s := marked[:at] + marked[at+1:]
		x, gotE, gotAt := grammar.Compile(s)
		if x != nil || gotE != e || gotAt != at {
			t.Errorf("P3: Compile(%q) = %v, %d, %d, want nil, %d, %d", s, x, gotE, gotAt, e, at)
		}
	}
}

// ofRules: a text of n rules, all of different names.
func ofRules(n int) (string, []string) {
	s := ""
	var names []string
	for k := 0; k < n; k++ {
		names = append(names, fmt.Sprintf("r%d", k))
		s += names[k] + " <- 'x'\n"
	}
	return s, names
}

func TestExamplesOfFaults(t *testing.T) {
	checkFault(t, api.ErrTwice, "a <- c @a <- 'z'")
	checkFault(t, api.ErrNone, "a <- 'x' (@b / c)")
	checkFault(t, api.ErrLeft, "@a <- 'x'? a", "a <- 'x' b @b <- c c <- !'y' b")
	checkFault(t, api.ErrLoop, "a <- 'x'*@*", "a <- ('x'* {}@*)*")
	checkFault(t, api.ErrRules, "@")
	checkFine(t, "a <- 'x' a", "a <- 'x'*?")
}

func TestRules(t *testing.T) {
	checkRight(t, "a<-'x'", "a")
	checkRight(t, "\n a\n<-\n'x' \n", "a")
	checkRight(t, "a<-", "a")
	checkRight(t, "c<-b a b<-a a<-'x'c2<-{c3:c}", "c", "b", "a", "c2")
	checkRight(t, "abcdefgh<-a1234567 a1234567<-'x'", "abcdefgh", "a1234567")
	checkRight(t, "sum <- {s: prod (('+' / '-') prod)*}\nprod <- {p: atom ([*/] atom)*}\natom <- {[0-9]+} / '(' sum ')'\n", "sum", "prod", "atom")
}

func TestMaxRules(t *testing.T) {
	checkFault(t, api.ErrRules, "@", "@ ", "@\n", "@ \n \n", "@"+strings.Repeat(" ", api.MaxText))
	for n := 1; n <= api.MaxRules; n++ {
		s, names := ofRules(n)
		checkRight(t, s, names...)
	}
	for _, n := range []int{api.MaxRules + 1, api.MaxRules + 2, 2 * api.MaxRules} {
		s, _ := ofRules(n)
		checkFault(t, api.ErrRules, "@"+s, "@\n"+s)
	}
	checkFault(t, api.ErrRules, "@"+strings.Repeat("a<-", api.MaxText/3))
}

func TestRulesOfOneName(t *testing.T) {
	checkFault(t, api.ErrTwice,
		"a <- 'x' @a <- 'y'", "a<-@a<-", "a <- 'x'\n\n@a <- 'x'\n",
		"a <- 'x' b <- 'y' @a <- 'z'", "a <- 'x' b <- 'y' @b <- 'z'",
		"a <- b b <- 'x' @b <- 'y' a <- 'z'", "a <- b b <- 'x' @a <- 'y' b <- 'z'", "a <- 'x' @a <- 'y' a <- 'z'",
		"abcdefgh <- 'x' abcdefg <- 'y' @abcdefgh <- 'z'")
	s, _ := ofRules(api.MaxRules - 1)
	checkFault(t, api.ErrTwice, s+"@r0 <- 'x'", s+"@r10 <- 'x'")
	checkFine(t, "a <- 'x' a1 <- 'y' aa <- 'z'", "abcdefgh <- 'x' abcdefgi <- 'y' abcdefg <- 'z'", "a <- b b b <- 'x'", "a <- {a: 'x'} b <- {a: {b: 'y'}}")
}

func TestNamesOfNoRule(t *testing.T) {
	checkFault(t, api.ErrNone,
		"a <- @b", "a<-@b", "a <- 'x' @b", "a <- @b c", "a <- @c b", "a <- (@b)", "a <- {@b}", "a <- {n: @b}", "a <- {n:@n}", "a <- {b: 'x'} @b",
		"a <- !@b", "a <- &!@b", "a <- @b*", "a <- @b+?", "a <- 'x' / @b", "a <- ((('x' / {{'y' !@b*}})))",
		"a <- 'x' a / @b a", "a <- b b <- 'x' @c", "a <- b b <- @c 'x' d <- e", "a <- b @d b <- c", "a <- 'x' b <- 'y' / c c <- @d",
		"ab <- @a", "a <- @ab", "a <- 'x' @a1", "abcdefgh <- 'x' @abcdefgi", "abcdefgh <- 'x' @abcdefg")
	checkFine(t, "a <- b b <- 'x'", "a <- 'x' a", "a <- {b: 'x'}", "a <- {n: {m: 'x'}}", "a <- 'b' [c]", "ab <- 'x' ab a a <- 'y'", "a <- ((('x' / {{'y' !b*}}))) b <- 'z'")
}

// Expressions that may match nothing, by every way there is, and others that
// are near to them but may not. They lean on the rules of some.
const some = " e <- 'q'? f <- e e g <- f / 'q' h <- 'q' / g k <- ('q' / 'r') l <- k e m <- l / k"

var nothings = []string{
	"''", "e", "f", "g", "h", "{}", "{ }", "&'q'", "!'q'", "&!'q'", "&k", "!.", "&'q'+",
	"'q'*", "'q'?", "'q'*?", "'q'+?", "'q'??", "k?", "{'q'}?", "e?", "''?",
	"()", "( )", "(e)", "((''))", "(!'q')", "{()}", "{e}", "{n:}", "{n: 'q'*}", "{n: e f}", "(e f '')", "(e 'q'* {} !.)",
	"(/)", "('q' /)", "(/ 'q')", "('q' / e)", "(e / 'q')", "('q' 'r' / e f / 's')", "('q' / {('r' / {})})", "{'q' / e f}",
}

var somethings = []string{
	"'q'", "' '", "'\\x00'", "[q]", "[^q]", "[^\\x00-\\xff]", ".", "k", "l", "m", "'q'+", "k+", "'q'++",
	"('q')", "{'q'}", "{n: 'q'}", "{n: k}", "('q' e)", "(e 'q')", "(e 'q' f)", "(e k f)", "('q' {})", "({} 'q')", "(!'q' 'r')", "('' 'q')", "('q' '')", "('q'? 'r')", "('q'* 'r'+)",
	"('q' / 'r')", "(k / l / m)", "('q' / e 'r')", "{'q' / 'r'}", "(('q' / 'r') ('q' /))",
}

func TestWhatMayMatchNothing(t *testing.T) {
	for _, n := range nothings {
		checkFault(t, api.ErrLoop,
			"a <- ("+n+")@*"+some, "a <- ("+n+")@+"+some, "a <- {"+n+"}@*"+some, "a <- {n: "+n+"}@+"+some, "a <- 'x' ("+n+")@+?"+some, "a <- !("+n+")@*"+some, "a <- 'x' / ("+n+")@*"+some,
			"a <- ('x' / "+n+")@*"+some, "a <- ("+n+" / 'x')@*"+some, "a <- ("+n+" "+n+")@*"+some, "a <- ("+n+")?@*"+some,
			"a <- b@+ b <- "+n+some, "a <- b 'x'"+some+" b <- c@* c <- "+n, "a <- b@*"+some+" b <- c / d c <- 'x' d <- "+n)
		checkFault(t, api.ErrLeft, "@a <- "+n+" a"+some, "@a <- b a"+some+" b <- "+n, "a <- b 'x'"+some+" @b <- "+n+" b", "@a <- 'x' / ("+n+") (a 'x')"+some)
		checkFine(t, "a <- ("+n+")?"+some, "a <- 'x' "+n+some, "a <- ("+n+" 'x')*"+some, "a <- ('x' "+n+")+"+some, "a <- "+n+" 'x' a"+some, "a <- b 'x' a"+some+" b <- "+n)
	}
	for _, n := range somethings {
		checkFine(t,
			"a <- ("+n+")*"+some, "a <- ("+n+")+"+some, "a <- {"+n+"}*"+some, "a <- {n: "+n+"}+"+some, "a <- !("+n+")*"+some, "a <- ('x' / "+n+")*"+some, "a <- b+ b <- "+n+some, "a <- b 'x'"+some+" b <- c* c <- "+n,
			"a <- "+n+" a"+some, "a <- b a"+some+" b <- "+n, "a <- e f "+n+" a"+some)
		checkFault(t, api.ErrLoop, "a <- ("+n+")*@*"+some, "a <- ("+n+")*@+"+some, "a <- ("+n+")+*@+"+some, "a <- ("+n+")?@*"+some, "a <- ("+n+" /)@*"+some)
		checkFault(t, api.ErrLeft, "@a <- ("+n+")* a"+some, "@a <- ("+n+")? a"+some, "@a <- !"+n+" a"+some)
	}
}

func TestNothingThroughRings(t *testing.T) {
	// Nothing of these may match nothing: a ring gives no end to it.
	checkFine(t, "a <- 'x' a / 'y' b <- a+", "a <- 'x' b b <- 'x' a c <- (a / b)*", "a <- 'x' a b <- ('y' a)+ c <- b* a", "a <- 'x' b / 'y' b <- 'z' c c <- 'w' a d <- (a / b / c)+")
	checkFault(t, api.ErrLeft, "@a <- a b <- a+", "@a <- a / b a b <- 'x'", "@a <- b b <- a c <- (a / b)*")
	// A way out of the ring is enough, wherever it is.
	checkFault(t, api.ErrLoop, "a <- 'x' b b <- 'x' c / c <- b@+", "a <- 'x' b / b <- 'y' c c <- 'z' a / d d <- a@+", "a <- d@+ b <- 'z' a / c c <- 'y' b / d <- c / 'x' b")
	checkFault(t, api.ErrLeft, "a <- b 'x' @b <- c b c <- d d <- 'x' d / e e <- 'y' a / {}")
	checkFine(t, "a <- b 'x' b <- c b c <- d d <- 'x' d / e e <- 'y' a / 'z'")
}

func TestNothingThroughManyRules(t *testing.T) {
	// Each rule is what the next one, or the one ahead, is.
	down, up := "", ""
	for k := 0; k < api.MaxRules-1; k++ {
		down += fmt.Sprintf("r%d <- r%d ", k, k+1)
		up += fmt.Sprintf("r%d <- r%d ", k+1, k)
	}
	last := fmt.Sprintf("r%d", api.MaxRules-1)
	checkFault(t, api.ErrLoop, down+last+" <- '' ''@*", strings.Replace(down, "r1 ", "r1@* ", 1)+last+" <- ''", "r0 <- '' / "+last+"@* "+strings.Replace(up, "r1 <- r0", "r1 <- ''", 1))
	checkFine(t, down+last+" <- ''", strings.Replace(down, "r1 ", "r1* ", 1)+last+" <- 'x'")
	checkFault(t, api.ErrLeft, "@"+down+last+" <- r0", "@"+down+last+" <- 'x'? r0", "@r0 <- "+last+" "+up, "@r0 <- 'x' / "+last+" "+up)
	checkFine(t, down+last+" <- 'x' r0", "r0 <- 'x' "+last+" "+up)
	// The ring is of the last two rules alone; all others lead to it.
	checkFault(t, api.ErrLeft, strings.Replace(down, fmt.Sprintf("r%d <-", api.MaxRules-2), fmt.Sprintf("@r%d <-", api.MaxRules-2), 1)+last+fmt.Sprintf(" <- 'x'* r%d", api.MaxRules-2))
}

func TestWhatARuleMayBeginWith(t *testing.T) {
	checkFault(t, api.ErrLeft,
		"@a <- a", "@a<-a", "\n @a <- a", "@a <- a 'x'", "@a <- 'x' / a", "@a <- 'x' / 'y' / a 'z'", "@a <- a / 'x'", "@a <- / a", "@a <- 'x' 'y' / a",
		"@a <- !a", "@a <- &a", "@a <- &!a 'x'", "@a <- a*", "@a <- a+", "@a <- a?", "@a <- !a*", "@a <- (a)", "@a <- {a}", "@a <- {n: a}", "@a <- {a: a}", "@a <- ({(a 'x')} 'y')", "@a <- 'x' / ('y' / !{'z' / a})+",
		"@a <- 'x'? a", "@a <- 'x'* 'y'? a", "@a <- !'x' a", "@a <- {} a", "@a <- '' a", "@a <- () a", "@a <- ('x' /) a", "@a <- ('x' / 'y'?) (a 'z')", "@a <- ('x'? a)", "@a <- 'x'? ('y' / 'z'? !a)", "@a <- {'x'?} {'y'? a}", "@a <- !a 'x'", "@a <- !'x' !a 'y'",
		"@a <- b b <- a", "@a <- b b <- 'x' / a", "@a <- b b <- c c <- a", "@a <- 'x'? b b <- 'y'? a", "@a <- 'x' / !b b <- {('y' / c 'z')} c <- a*",
		"@a <- b a b <- 'x'*", "@a <- b c b <- 'x'? c <- a", "@a <- b c d b <- '' c <- b d <- c a", "@a <- b a b <- c d c <- {} d <- 'x'?")
	checkFine(t,
		"a <- 'x' a", "a <- 'x' / 'y' a", "a <- 'x' !a", "a <- 'x' a*", "a <- ('x' a)", "a <- ('x') a", "a <- {'x'} a", "a <- {n: 'x' a}", "a <- 'x'+ a", "a <- ('x' / 'y') a", "a <- 'x'? 'y' a", "a <- 'x'? 'y' 'z'? a", "a <- !'x' 'y' a", "a <- ('x'? 'y') a", "a <- . a", "a <- [x] a", "a <- ' ' a",
		"a <- {a: 'x'}", "a <- 'a'", "a <- [a]",
		"a <- b a b <- 'x'", "a <- b a b <- 'x'+", "a <- b b <- 'x' a", "a <- 'x' b b <- a", "a <- b b <- c c <- 'x' a / 'y' b / 'z' c", "a <- b c b <- 'x' c <- a", "a <- b 'x' c b <- 'x'? c <- a",
		"a <- b b b b <- c c c <- 'x'")
}

func TestWhichRuleBeginsWithItself(t *testing.T) {
	checkFault(t, api.ErrLeft,
		// Rules that only lead to a ring are not in it.
		"a <- b @b <- b", "a <- b b <- c @c <- d d <- c", "a <- 'x' @b <- b", "a <- 'x' b @b <- b", "a <- b 'x' @b <- c b c <- 'y'?", "b <- 'x' @a <- a*", "a <- b c @b <- d c <- c d <- b",
		// Of several, the first.
		"@a <- a b <- b", "@b <- b a <- a", "a <- c @b <- b c <- c", "@a <- b b <- a c <- c", "a <- 'x' @b <- 'y' / d c <- c d <- b",
		// And wherever the name stands that closes the ring.
		"a <- 'x' b <- 'x' c <- 'x' @d <- 'x'? e e <- !'y' d")
}

func TestWhichSignRepeatsNothing(t *testing.T) {
	checkFault(t, api.ErrLoop,
		"a <- ''@*", "a <- ''@+", "a <- ''\n @*", "a <- ''@**", "a <- ''?@*", "a <- 'x'*@+", "a <- 'x'?@+", "a <- 'x'+*@*", "a <- 'x'*?@*", "a <- 'x'*@*?", "a <- 'x'?@*+",
		"a <- (''@*)*", "a <- ('x' ''@* ''*)*", "a <- ('x' (''@* 'y')*)*", "a <- (('x'*)@* 'y')* ''*", "a <- ('x' / ('y' / {}@+)*)+", "a <- 'x' / ''@* / ''*",
		"a <- !''@*", "a <- !(!'x')@*", "a <- (!'x')@+", "a <- &(&'x')@+", "a <- 'x' !'y' ''@* 'z'",
		"a <- 'x'* ('x'*)@*", "a <- ('x'* 'y'*)@*", "a <- 'x' b <- ''@*", "a <- 'x' b <- 'y'*@* c <- ''*", "a <- b@* b <- c* c <- ''")
	checkFine(t, "a <- 'x'*", "a <- 'x'+", "a <- 'x'*?", "a <- 'x'+?", "a <- 'x'??", "a <- ''?", "a <- 'x'++", "a <- 'x'+*", "a <- 'x'+++*??", "a <- !'x'*", "a <- &!'x'+", "a <- !''?", "a <- ('x' 'y'*)*", "a <- ('x'* 'y')*", "a <- ('x'+)+", "a <- ('x'?)?", "a <- {}?", "a <- (!'x' .)*", "a <- {{'x'} {}}+", "a <- 'x'? 'y'*", "a <- ('x'* / 'y')?", "a <- 'x' b* b <- 'y' a?")
}

// Each fault is told ahead of those behind it in the document's order, however
// they stand in the text; and P2's ahead of all.
func TestWhichFaultIsTold(t *testing.T) {
	many, _ := ofRules(api.MaxRules)
	checkFault(t, api.ErrRules, "@"+many+"r0 <- 'x'", "@r0 <- 'x' "+many, "@"+many+"x <- y", "@x <- y "+many, "@"+many+"x <- x", "@x <- x "+many, "@"+many+"x <- ''*", "@x <- ''* "+many)
	checkFault(t, api.ErrSyntax, many+"x <- !@", "@$", " @*", many+"x <- 'y' @)")
	checkFault(t, api.ErrTwice,
		"a <- b @a <- c", "a <- 'x' @a <- 'y' c <- d", "a <- a @a <- 'y'", "a <- 'x' @a <- a", "a <- ''* @a <- 'y'", "a <- 'x' @a <- ''*", "b <- b c <- ''* d <- e @b <- 'x'")
	checkFault(t, api.ErrNone,
		"a <- a @d", "a <- @d a", "a <- a b <- @d", "a <- @d b <- b", "a <- ''* @d", "a <- @d ''*", "a <- ''* b <- @d", "a <- ''* b <- b c <- @d", "a <- @d*", "a <- !@d a ''*", "a <- (@d?)*")
	checkFault(t, api.ErrLeft,
		"@a <- a ''*", "@a <- ''* a", "@a <- a*", "@a <- a b <- ''*", "a <- ''* @b <- b", "a <- ''* 'x' b @b <- 'y'** b", "@a <- (a?)*", "@a <- (!a)*", "a <- b* @b <- b?")
	checkFault(t, api.ErrLoop, "a <- ''@* 'x' a", "a <- 'x' a ''@*")
}
