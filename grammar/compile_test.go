package grammar_test

import (
	"strings"
	"testing"

	"peg/api"
	"peg/grammar"
)

// written tells whether an error leaves a text well written.
func written(e api.Errno) bool {
	return e != api.ErrLong && e != api.ErrSyntax && e != api.ErrDeep
}

// checkWritten looks at P2 alone: what is answered beside it is not P2's.
func checkWritten(t *testing.T, s string) {
	t.Helper()
	if _, e, at := grammar.Compile(s); !written(e) {
		t.Errorf("P2: Compile(%q) = .., %d, %d, but it is well written", s, e, at)
	}
}

func checkWrong(t *testing.T, s string, e api.Errno, at int) {
	t.Helper()
	x, gotE, gotAt := grammar.Compile(s)
	if x != nil || gotE != e || gotAt != at {
		t.Errorf("P2: Compile(%q) = %v, %d, %d, want nil, %d, %d", s, x, gotE, gotAt, e, at)
	}
}

type wrong struct {
	s  string
	at int
}

func checkSyntax(t *testing.T, list []wrong) {
	t.Helper()
	for _, f := range list {
		checkWrong(t, f.s, api.ErrSyntax, f.at)
	}
}

// opened answers n opening brackets of both kinds, and what closes them.
func opened(n int) (string, string) {
	open, closing := "", ""
	for k := 0; k < n; k++ {
		open += "({"[k%2 : k%2+1]
		closing = ")}"[k%2:k%2+1] + closing
	}
	return open, closing
}

func TestWellWritten(t *testing.T) {
	for _, s := range []string{
		"", " ", "\n", "a <-", "a<-", "\n a\n<-\n'x' \n", "a <- 'x'", "a<-'x'", "a<-'x'b<-'y'",
		"a <- b b <- 'x'", "a <- b\nb <- c\nc <- 'x'", "a <- b<-", "a <- b b<-c c<-",
		"a <- 'x' / 'y'", "a <- /", "a <- / /", "a <- 'x' /", "a <- / 'x'", "a <- 'x' / b <- 'y'",
		"a <- 'x' 'y' [z] . b", "a <- ''", "a <- 'x''y'", "a <- [x][^y]", "a <- ..",
		"a <- &'x'", "a <- !'x'", "a <- &!&!'x'", "a <- !b", "a <- !(b)", "a <- !{}", "a <- !.", "a <- ![x]", "a <- & 'x' ! 'y'",
		"a <- 'x'*", "a <- 'x'+", "a <- 'x'?", "a <- 'x'*+?", "a <- 'x' * + ?", "a <- !'x'*", "a <- b* b <- .", "a <- ()*", "a <- {}?", "a <- {'x'}+", "a <- .+", "a <- [x]?",
		"a <- ()", "a <- ( )", "a <- (())", "a <- ('x' / 'y')", "a <- (/)", "a <- (b)",
		"a <- {}", "a <- { }", "a <- {\n}", "a <- {()}", "a <- {'x' / 'y'}", "a <- {/}", "a <- {b}", "a <- {b c}",
		"a <- {n:}", "a <- { n : }", "a <- {n: 'x'}", "a <- {n: b / c}", "a <- {n: {n: 'x'} {n}}", "a <- ({n:()})",
		"sum <- {s: prod (('+' / '-') prod)*}\nprod <- {p: atom ([*/] atom)*}\natom <- {[0-9]+} / '(' sum ')'\n",
	} {
		checkWritten(t, s)
	}
}

func TestExamplesOfWrongTexts(t *testing.T) {
	checkSyntax(t, []wrong{
		{"a", 1}, {"a b", 2}, {"a <- 'x", 5}, {"a <- [b-a]", 5}, {"a <- ('x'", 9}, {"a <- ! / 'x'", 7}, {"a <- (b b <- 'x')", 8}, {"abcdefghi <- 'x'", 0},
	})
}

func TestTextsThatEndTooSoon(t *testing.T) {
	checkSyntax(t, []wrong{
		{"a", 1}, {"a \n", 3}, {" a", 2}, {"a <- 'x' b <- (", 15},
		{"a <- &", 6}, {"a <- !", 6}, {"a <- ! \n ", 9}, {"a <- 'x' / !", 12}, {"a <- !&", 7},
		{"a <- (", 6}, {"a <- ( ", 7}, {"a <- ('x'", 9}, {"a <- ('x' /", 11}, {"a <- (b", 7}, {"a <- (()", 8}, {"a <- ('x'*", 10},
		{"a <- {", 6}, {"a <- {n", 7}, {"a <- {n:", 8}, {"a <- {n: 'x'", 12}, {"a <- {n: 'x' ", 13}, {"a <- ({}", 8},
	})
}

func TestWhatIsNoToken(t *testing.T) {
	for c := 0; c < 256; c++ {
		b := string([]byte{byte(c)})
		if strings.Contains(" \nabcdefghijklmnopqrstuvwxyz/&!*+?.(){}:", b) {
			continue
		}
		checkSyntax(t, []wrong{{b, 0}, {"a " + b, 2}, {"a <- 'x' " + b, 9}, {"a <- 'x'" + b, 8}, {"a <- (" + b, 6}, {"a <- { " + b + "}", 7}, {"a <- ! " + b, 7}})
	}
	checkSyntax(t, []wrong{
		{"a <", 2}, {"a < - 'x'", 2}, {"a <\n- 'x'", 2}, {"a <-- 'x'", 4}, {"a -> 'x'", 2}, {"a <- b $ b <- 'x'", 7}, {"a <- b < 'x'", 7}, {"a <- {n$: 'x'}", 7},
		{"a <- '", 5}, {"a <- 'x", 5}, {"a <- 'x\\'", 5}, {"a <- 'x\\", 5}, {"a <- 'x' 'y", 9}, {"a <- '\\n'", 5}, {"a <- '\\x4'", 5}, {"a <- '\\x4A'", 5}, {"a <- 'x\ny'", 5}, {"a <- 'x\x7f'", 5}, {"a <- 'x\x80'", 5}, {"a <- ('x)", 6},
		{"a <- [", 5}, {"a <- []", 5}, {"a <- [^]", 5}, {"a <- [^^]", 5}, {"a <- [b-a]", 5}, {"a <- [\\x62-a]", 5}, {"a <- [a-]", 5}, {"a <- [-a]", 5}, {"a <- [a-c-e]", 5}, {"a <- [a^]", 5}, {"a <- [[]", 5}, {"a <- [\\']", 5}, {"a <- [a\n]", 5}, {"a <- [a\x7f]", 5}, {"a <- 'x' [a", 9}, {"a <- [a]]", 8},
		{"aB <- 'x'", 1}, {"a <- 'x' B <- 'y'", 9}, {"1a <- 'x'", 0}, {"a <- 1", 5},
	})
}

func TestTokensThatCannotStandThere(t *testing.T) {
	for _, tok := range []string{"<-", "/", "&", "!", "*", "+", "?", ".", "(", ")", "{", "}", ":", "'x'", "[x]"} {
		checkSyntax(t, []wrong{{tok, 0}, {" \n" + tok + " a <- 'x'", 2}})
		if tok != "<-" {
			checkSyntax(t, []wrong{{"a " + tok, 2}, {"a " + tok + " <- 'x'", 2}})
		}
	}
	for _, tok := range []string{")", "}", ":", "<-"} {
		checkSyntax(t, []wrong{{"a <- " + tok, 5}, {"a <- 'x' " + tok, 9}, {"a <- 'x' / " + tok, 11}, {"a <- 'x'* " + tok, 10}, {"a <- () " + tok, 8}, {"a <- ! " + tok, 7}})
	}
	for _, tok := range []string{"*", "+", "?"} {
		checkSyntax(t, []wrong{{"a <- " + tok, 5}, {"a <- 'x' / " + tok, 11}, {"a <- !" + tok, 6}, {"a <- (" + tok + ")", 6}, {"a <- {" + tok + "}", 6}, {"a <- {n:" + tok + "}", 8}})
	}
	checkSyntax(t, []wrong{
		{"a b", 2}, {"a b <- 'x'", 2}, {"a <- 'x' : 'y'", 9}, {"a <- b : 'y'", 7}, {"a <- (b: 'y')", 7},
		{"a <- ('x'}", 9}, {"a <- {'x')", 9}, {"a <- {n: 'x')", 12}, {"a <- ({'x')}", 10}, {"a <- ('x'))", 10}, {"a <- {}}", 7}, {"a <- {)", 6}, {"a <- (}", 6}, {"a <- {n: )", 9}, {"a <- {n: <-", 9},
		{"a <- ! / 'x'", 7}, {"a <- (!)", 7}, {"a <- {&}", 7}, {"a <- {n: !}", 10},
		{"a <- {:}", 6}, {"a <- {: 'x'}", 6}, {"a <- {'n': 'x'}", 9}, {"a <- {b c: 'x'}", 9}, {"a <- {n: m: 'x'}", 10}, {"a <- {n:: 'x'}", 8}, {"a <- {!n: 'x'}", 8}, {"a <- {(n: 'x')}", 8},
		{"a <- <- 'x'", 5}, {"a <- 'x' <- 'y'", 9},
	})
}

func TestNamesThatBeginRules(t *testing.T) {
	checkSyntax(t, []wrong{
		{"a <- (b <- 'x')", 6}, {"a <- (b b <- 'x')", 8}, {"a <- ('x' / b <- 'y')", 12}, {"a <- ('x'\nb\n<-\n'y'", 10},
		{"a <- {b <- 'x'}", 6}, {"a <- {'x' b <- 'y'}", 10}, {"a <- {n: b <- 'x'}", 9}, {"a <- {n b <- 'x'}", 8},
		{"a <- ! b <- 'x'", 7}, {"a <- &b <- 'x'", 6}, {"a <- !!b <- 'x'", 7}, {"a <- 'x' !b<-", 10},
		{"a <- (b <- (", 6}, {"a <- (b <- $", 6},
	})
}

func TestMaxText(t *testing.T) {
	full := "a <- 'x'" + strings.Repeat(" ", api.MaxText-8)
	checkWritten(t, full)
	checkWritten(t, "a <- '"+strings.Repeat("x", api.MaxText-7)+"'")
	checkWrong(t, full+" ", api.ErrLong, 0)
	checkWrong(t, strings.Repeat(" ", api.MaxText+1), api.ErrLong, 0)
	// At the bound what is wrong is told; beyond it nothing but ErrLong is.
	checkWrong(t, full[1:]+"$", api.ErrSyntax, 1)
	checkWrong(t, full[:api.MaxText-1]+"$", api.ErrSyntax, api.MaxText-1)
	checkWrong(t, full[:api.MaxText-1]+"!", api.ErrSyntax, api.MaxText)
	checkWrong(t, "$"+full, api.ErrLong, 0)
	checkWrong(t, "a <- "+strings.Repeat("(", api.MaxText-5), api.ErrDeep, 5+api.MaxDepth)
	checkWrong(t, "a <- "+strings.Repeat("(", api.MaxText-4), api.ErrLong, 0)
	checkWrong(t, strings.Repeat("!", 1000000), api.ErrLong, 0)
	checkWritten(t, "a <- "+strings.Repeat("!", api.MaxText-6)+".")
	checkWrong(t, "a <- "+strings.Repeat("!", api.MaxText-5), api.ErrSyntax, api.MaxText)
}

func TestMaxName(t *testing.T) {
	within := "n" + strings.Repeat("9", api.MaxName-1)
	for _, s := range []string{within + " <- 'x'", within + "<-", "a <- " + within, "a <- {" + within + ": 'x'}", "a <- {" + within + "}", "a <- 'x' " + within + " <- 'y'"} {
		checkWritten(t, s)
	}
	for _, beyond := range []string{within + "n", within + "9", strings.Repeat("n", api.MaxText-50)} {
		checkSyntax(t, []wrong{{beyond + " <- 'x'", 0}, {beyond, 0}, {"a <- " + beyond, 5}, {"a <- 'x' " + beyond + " <- 'y'", 9}, {"a <- {" + beyond + ": 'x'}", 6}, {"a <- (" + beyond + " b <- 'x')", 6}, {"a " + beyond, 2}})
	}
}

func TestMaxDepth(t *testing.T) {
	open, closing := opened(api.MaxDepth)
	checkWritten(t, "a <- "+open+closing)
	checkWritten(t, "a <- "+open+"'x'"+closing)
	checkWritten(t, "a <- "+open+closing+" "+open+closing+" b <- "+open+closing)
	less, lessClosing := opened(api.MaxDepth - 1)
	checkWritten(t, "a <- "+less+"{} {} () {n: 'x'} ('y')"+lessClosing)
	checkWritten(t, "a <- "+strings.Repeat("() {} ('x') ", 30))
	checkWritten(t, "a <- "+open+"'((((' [({] "+closing)
	for _, tail := range []string{"()", "{}", "('x')", "{'x'}", "{n: 'x'}", "{ }"} {
		checkWrong(t, "a <- "+open+tail+closing, api.ErrDeep, 5+api.MaxDepth)
		checkWrong(t, "a <- "+open+"'x' / !"+tail+closing, api.ErrDeep, 12+api.MaxDepth)
	}
	// Brackets that were closed do not count, those ahead of them do.
	checkWrong(t, "a <- "+open+closing+" "+open+"()"+closing, api.ErrDeep, 6+3*api.MaxDepth)
	checkWrong(t, "a <- "+less+"{} (())"+lessClosing, api.ErrDeep, 8+api.MaxDepth)
	checkWrong(t, "a <- 'x' b <- "+open+"{}"+closing, api.ErrDeep, 14+api.MaxDepth)
	same := strings.Repeat("{n:", api.MaxDepth)
	checkWritten(t, "a <- "+same+strings.Repeat("}", api.MaxDepth))
	checkWrong(t, "a <- "+same+"{n:", api.ErrDeep, 5+3*api.MaxDepth)
}

func TestSyntaxAndDeepInOneText(t *testing.T) {
	open, closing := opened(api.MaxDepth)
	for _, tail := range []string{"", "$", "(", ")", "}", "*", "'", "b <- 'x'", " :"} {
		checkWrong(t, "a <- "+open+"("+tail, api.ErrDeep, 5+api.MaxDepth)
		checkWrong(t, "a <- "+open+"{"+tail, api.ErrDeep, 5+api.MaxDepth)
	}
	checkWrong(t, "a <- "+open+"{}"+closing+"$", api.ErrDeep, 5+api.MaxDepth)
	checkWrong(t, "a <- "+open+"("+closing+" b <- )", api.ErrDeep, 5+api.MaxDepth)
	for _, tok := range []string{"$", "*", ":", "<-", "[", "b <- "} {
		checkWrong(t, "a <- "+open+" "+tok+" ()"+closing, api.ErrSyntax, 6+api.MaxDepth)
	}
	checkWrong(t, "a "+open+"()"+closing, api.ErrSyntax, 2)
	checkWrong(t, "a <- (b <- "+open, api.ErrSyntax, 6)
	checkWrong(t, "a <- ! / "+open+"()"+closing, api.ErrSyntax, 7)
}
