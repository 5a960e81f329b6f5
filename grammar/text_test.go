package grammar_test

import (
	"fmt"
	"strings"
	"testing"

	"peg/api"
	"peg/grammar"
)

// compiled: the grammar of a text that has one.
func compiled(t *testing.T, s string) *grammar.Grammar {
	t.Helper()
	x, e, at := grammar.Compile(s)
	if x == nil || e != api.OK {
		t.Fatalf("P3: Compile(%q) = %v, %d, %d", s, x, e, at)
	}
	return x
}

// checkText looks also whether the text of the text is the same.
func checkText(t *testing.T, s string, want string) {
	t.Helper()
	got := compiled(t, s).Text()
	if got != want {
		t.Errorf("P4: the text of %q is %q, want %q", s, got, want)
	} else if len(want) <= api.MaxText && s != want {
		checkText(t, want, want)
	}
}

// The rules that the expressions of checkBody may name.
const others = "b <- 'q'\nc <- 'r'\n"

// checkBody: of an expression as that of a rule, in braces, and within more
// than it needs.
func checkBody(t *testing.T, s string, want string) {
	t.Helper()
	checkText(t, "a <- "+s+"\n"+others, "a <- "+want+"\n"+others)
	checkText(t, "a<-("+s+")"+others, "a <- "+want+"\n"+others)
	checkText(t, "a <- {(("+s+"))}"+others, "a <- {"+want+"}\n"+others)
	checkText(t, "a <- 'w' { n : "+s+" } "+others, "a <- 'w' {n: "+want+"}\n"+others)
}

func checkBodies(t *testing.T, list [][2]string) {
	t.Helper()
	for _, f := range list {
		checkBody(t, f[0], f[1])
	}
}

// checkOwn: expressions that are their own texts.
func checkOwn(t *testing.T, list ...string) {
	t.Helper()
	for _, s := range list {
		checkBody(t, s, s)
	}
}

const sums = "sum <- {s: prod (('+' / '-') prod)*}\nprod <- {p: atom ([*/] atom)*}\natom <- {[0-9]+} / '(' sum ')'\n"

func TestExamplesOfTexts(t *testing.T) {
	checkText(t, "a<-'x'", "a <- 'x'\n")
	checkText(t, sums, sums)
	checkText(t, "a <- ('x')* (('y') 'z')", "a <- 'x'* 'y' 'z'\n")
	checkText(t, "a <- (!'x')?", "a <- (!'x')?\n")
	checkText(t, `a <- [a-cx\]\-\^\[]`, `a <- [\-\[\]\^a-cx]`+"\n")
	checkText(t, "a <- ", "a <- ''\n")
	checkText(t, `a <- '\'\\\x41\x0a'`, `a <- '\'\\A\x0a'`+"\n")
	checkText(t, "a <- () 'x'", "a <- '' 'x'\n")
}

func TestLinesOfTexts(t *testing.T) {
	checkText(t, "a<-", "a <- ''\n")
	checkText(t, "\n \na\n\n<-\n\n'x'\n\n/'y' \n", "a <- 'x' / 'y'\n")
	checkText(t, "a<-b b<-c c<-'x'", "a <- b\nb <- c\nc <- 'x'\n")
	checkText(t, "c<-'x'b<-a<-", "c <- 'x'\nb <- ''\na <- ''\n")
	checkText(t, "abcdefgh<-a1234567 a1234567<-{abcdefgh:{n1:'x'}}", "abcdefgh <- a1234567\na1234567 <- {abcdefgh: {n1: 'x'}}\n")
	for n := 1; n <= api.MaxRules; n++ {
		s, _ := ofRules(n)
		checkText(t, strings.ReplaceAll(s, "\n", " "), s)
	}
}

func TestBlanksOfTexts(t *testing.T) {
	checkBodies(t, [][2]string{
		{"'x''y'", "'x' 'y'"}, {"'x'  \n 'y'", "'x' 'y'"}, {"b c b", "b c b"}, {"..", ". ."}, {"[x][y]", "[x] [y]"}, {"{}{}", "{} {}"}, {"{'x'}{'y'}", "{'x'} {'y'}"}, {"{'x'}b", "{'x'} b"},
		{"'x'/'y'", "'x' / 'y'"}, {"'x'\n/\n'y'/b c", "'x' / 'y' / b c"}, {"'x''y'/.", "'x' 'y' / ."},
		{"! 'x'", "!'x'"}, {"& ! & 'x'", "&!&'x'"}, {"!'x'&'y'", "!'x' &'y'"}, {"'x'!'y'", "'x' !'y'"}, {"'x' + * ?", "'x'+*?"}, {"'x'*'y'+b?", "'x'* 'y'+ b?"}, {"! 'x' *", "!'x'*"},
		{"{ }", "{}"}, {"{\n}", "{}"}, {"{ 'x' }", "{'x'}"}, {"{ 'x'  'y' / 'z' }", "{'x' 'y' / 'z'}"}, {"{n:'x'}", "{n: 'x'}"}, {"{ n\n:\n'x' }", "{n: 'x'}"}, {"{n:b/c}", "{n: b / c}"}, {"{b}", "{b}"}, {"{b:b}", "{b: b}"}, {"{ b c}", "{b c}"},
		{"( 'x' / 'y' ) *", "('x' / 'y')*"}, {"!( 'x'  'y' )", "!('x' 'y')"}, {"{{'x'}{ }}+", "{{'x'} {}}+"},
	})
}

// Each place where brackets must stand, and beside it the nearest where they
// must not.
func TestBracketsAboutChoices(t *testing.T) {
	checkOwn(t,
		"('x' / 'y') 'z'", "'z' ('x' / 'y')", "'w' ('x' / 'y') 'z'", "('x' / 'y') ('z' / 'w')", "'z' / 'w' ('x' / 'y')", "('x' / 'y') 'z' / 'w'", "('x' / '') 'z'",
		"!('x' / 'y')", "&('x' / 'y')", "('x' / 'y')*", "('x' / 'y')+", "('x' / 'y')?", "!('x' / 'y')*", "('x' / 'y')*?", "&!('x' / 'y')", "(!('x' / 'y'))?", "('x' / 'y')+ / 'z'", "('x' 'y' / 'z')*", "(('x' / 'y') 'z')*", "(('x' / 'y') 'z' / 'w')*", "('x' ('y' / 'z'))*", "('w' / 'x' ('y' / 'z'))*", "(!('x' / 'y') 'z')*", "(('x' / 'y')* 'z')?",
		"'x' / 'y'", "{'x' / 'y'}", "{n: 'x' / 'y'}", "{'x' / 'y'}*", "!{'x' / 'y'}", "{'x' / 'y'} 'z'", "{'x' / 'y'} / 'z'", "{n: 'x' / 'y'}?", "({'x' / 'y'} / 'z')*")
	checkBodies(t, [][2]string{
		{"('x' / 'y')", "'x' / 'y'"}, {"(('x' / 'y'))", "'x' / 'y'"}, {"('x') / ('y')", "'x' / 'y'"}, {"{('x' / 'y')}", "{'x' / 'y'}"}, {"{n: ('x' / 'y')}", "{n: 'x' / 'y'}"}, {"{(('x' / 'y'))}*", "{'x' / 'y'}*"}, {"!{('x' / 'y')}", "!{'x' / 'y'}"},
		{"(('x' / 'y'))*", "('x' / 'y')*"}, {"!(('x' / 'y'))", "!('x' / 'y')"}, {"(('x' / 'y')) 'z'", "('x' / 'y') 'z'"}, {"((('x' / 'y')) 'z')", "('x' / 'y') 'z'"},
		{"(({'x' / 'y'}))*", "{'x' / 'y'}*"}, {"({'x' / 'y'}) 'z'", "{'x' / 'y'} 'z'"},
	})
}

func TestBracketsAboutRows(t *testing.T) {
	checkOwn(t,
		"!('x' 'y')", "&('x' 'y')", "('x' 'y')*", "('x' 'y')+", "('x' 'y')?", "!('x' 'y')*", "('x' 'y')+?", "!&('x' 'y')", "(!('x' 'y'))?", "(!'x' 'y')*", "('x' !'y')*", "('x'* 'y')*", "('x' 'y'?)?", "('x' ('y' 'z')*)*", "'w' ('x' 'y')* 'z'", "('' 'x')?", "('x' '')*", "('' '')?", "({} {})?",
		"{'x' 'y'}", "{n: 'x' 'y'}", "{'x' 'y'}*", "!{'x' 'y'}", "{'x' 'y'} 'z'", "'x' 'y' / 'z'", "'x' / 'y' 'z'")
	checkBodies(t, [][2]string{
		{"('x' 'y')", "'x' 'y'"}, {"('x' 'y') 'z'", "'x' 'y' 'z'"}, {"'z' ('x' 'y')", "'z' 'x' 'y'"}, {"'w' ('x' 'y') 'z'", "'w' 'x' 'y' 'z'"}, {"('x' 'y') / 'z'", "'x' 'y' / 'z'"}, {"'x' / ('y' 'z')", "'x' / 'y' 'z'"}, {"{('x' 'y')}", "{'x' 'y'}"}, {"{n: ('x' 'y')}?", "{n: 'x' 'y'}?"},
		{"(('x' 'y'))*", "('x' 'y')*"}, {"!(('x' 'y'))", "!('x' 'y')"}, {"(('x' 'y') 'z')*", "('x' 'y' 'z')*"}, {"!('x' ('y' 'z'))", "!('x' 'y' 'z')"}, {"('x' 'y')* ('z' 'w')", "('x' 'y')* 'z' 'w'"}, {"(('x' 'y') / 'z')*", "('x' 'y' / 'z')*"},
	})
}

func TestBracketsAboutItems(t *testing.T) {
	// Of one item that has no & or ! ahead there are never any.
	for _, s := range []string{"'x'", "''", "[x]", ".", "b", "{}", "{'x'}", "{n: 'x'}", "{b / c}", "'x'?", "'x'*?", "{'x'}?", "b?"} {
		checkBodies(t, [][2]string{
			{"(" + s + ")", s}, {"((" + s + "))", s}, {"(" + s + ")?", s + "?"}, {"!(" + s + ")", "!" + s}, {"&(" + s + ")?", "&" + s + "?"}, {"(" + s + ") 'z'", s + " 'z'"}, {"'z' (" + s + ")", "'z' " + s}, {"(" + s + ") / 'z'", s + " / 'z'"}, {"{(" + s + ")}", "{" + s + "}"},
		})
	}
	for _, s := range []string{"'x'", "[x]", ".", "b", "{'x'}", "'x'+"} {
		checkBodies(t, [][2]string{{"(" + s + ")*", s + "*"}, {"(" + s + ")+", s + "+"}, {"((" + s + ")+)*", s + "+*"}})
	}
	for _, s := range []string{"!'x'", "&'x'", "!!'x'", "&!'x'", "!'x'*", "&b?", "!{'x'}", "!('x' 'y')", "&('x' / 'y')", "!''"} {
		checkOwn(t, s, "("+s+")?", "!("+s+")?", "("+s+")??", s+" 'z'", "'z' "+s, s+" / 'z'", "'z' / "+s, "{"+s+"}", "{"+s+"}?", "!"+s, "&"+s, "("+s+" 'z')*", "("+s+" / 'z')?")
		checkBodies(t, [][2]string{
			{"(" + s + ")", s}, {"((" + s + "))?", "(" + s + ")?"}, {"!(" + s + ")", "!" + s}, {"&((" + s + "))", "&" + s}, {"(" + s + ") 'z'", s + " 'z'"}, {"'z' (" + s + ")", "'z' " + s}, {"(" + s + ") / 'z'", s + " / 'z'"}, {"{(" + s + ")}?", "{" + s + "}?"}, {"((" + s + ") 'z')*", "(" + s + " 'z')*"},
		})
	}
	// What the sign goes for.
	checkBodies(t, [][2]string{{"!('x'?)", "!'x'?"}, {"(!'x')? 'y'", "(!'x')? 'y'"}, {"!('x')? 'y'", "!'x'? 'y'"}, {"(!('x')?)?", "(!'x'?)?"}})
}

func TestRowsOfNoItems(t *testing.T) {
	checkBodies(t, [][2]string{
		{"", "''"}, {"()", "''"}, {"(())", "''"}, {"''", "''"}, {"('')", "''"},
		{"() 'x'", "'' 'x'"}, {"'x' ()", "'x' ''"}, {"'x' () 'y'", "'x' '' 'y'"}, {"()()", "'' ''"}, {"(() ())", "'' ''"}, {"'' ()", "'' ''"}, {"((())) 'x'", "'' 'x'"}, {"(() 'x') 'y'", "'' 'x' 'y'"}, {"() ('x' 'y')", "'' 'x' 'y'"},
		{"/", "'' / ''"}, {"'x' /", "'x' / ''"}, {"/ 'x'", "'' / 'x'"}, {"'x' / / 'y'", "'x' / '' / 'y'"}, {"/ /", "'' / '' / ''"}, {"'x' / ()", "'x' / ''"}, {"(/) 'x'", "('' / '') 'x'"}, {"('x' /) 'y'", "('x' / '') 'y'"}, {"('x' /) / 'y'", "'x' / '' / 'y'"},
		{"!()", "!''"}, {"&()", "&''"}, {"()?", "''?"}, {"(())?", "''?"}, {"()??", "''??"}, {"(() ())?", "('' '')?"}, {"(() 'x')*", "('' 'x')*"}, {"!(() ())", "!('' '')"}, {"(/)?", "('' / '')?"}, {"!(/)", "!('' / '')"},
		{"{}", "{}"}, {"{()}", "{''}"}, {"{(())}", "{''}"}, {"{n:}", "{n: ''}"}, {"{n: ()}", "{n: ''}"}, {"{/}", "{'' / ''}"}, {"{n:/}", "{n: '' / ''}"}, {"{''}", "{''}"}, {"{{}}", "{{}}"}, {"{()}?", "{''}?"},
	})
}

func TestRowsInRowsAndChoicesInChoices(t *testing.T) {
	checkBodies(t, [][2]string{
		{"('x' ('y' ('z' 'w')))", "'x' 'y' 'z' 'w'"}, {"((('x' 'y') 'z') 'w')", "'x' 'y' 'z' 'w'"}, {"('x' 'y') ('z' 'w')", "'x' 'y' 'z' 'w'"}, {"((('x') 'y') (('z')))", "'x' 'y' 'z'"}, {"('x' !('y' ('z' 'w')))", "'x' !('y' 'z' 'w')"},
		{"('x' / 'y') / 'z'", "'x' / 'y' / 'z'"}, {"'x' / ('y' / 'z')", "'x' / 'y' / 'z'"}, {"(('x' / 'y') / 'z') / 'w'", "'x' / 'y' / 'z' / 'w'"}, {"'x' / ('y' / ('z' / 'w'))", "'x' / 'y' / 'z' / 'w'"}, {"('x' / 'y') / ('z' / 'w')", "'x' / 'y' / 'z' / 'w'"}, {"'x' / (('y' / 'z')) / 'w'", "'x' / 'y' / 'z' / 'w'"}, {"(('x' / 'y') / 'z')*", "('x' / 'y' / 'z')*"}, {"!('x' / ('y' / 'z'))", "!('x' / 'y' / 'z')"}, {"(('x' / 'y') / 'z') 'w'", "('x' / 'y' / 'z') 'w'"}, {"{('x' / 'y') / 'z'}", "{'x' / 'y' / 'z'}"},
		{"('x' 'y') / ('z' / 'w' ('v' 'u'))", "'x' 'y' / 'z' / 'w' 'v' 'u'"}, {"('x' ('y' / 'z')) ('w')", "'x' ('y' / 'z') 'w'"}, {"('x' / 'y' ('z' / 'w'))", "'x' / 'y' ('z' / 'w')"}, {"'x' (('y' / 'z'))", "'x' ('y' / 'z')"}, {"('x' / 'y')* / ('z' / 'w')?", "('x' / 'y')* / ('z' / 'w')?"}, {"(('x' 'y') / ('z' 'w'))", "'x' 'y' / 'z' 'w'"},
		// Rows and choices in what is caught stay there.
		{"{'x' 'y'} {'z' 'w'}", "{'x' 'y'} {'z' 'w'}"}, {"{'x' / 'y'} / {'z'}", "{'x' / 'y'} / {'z'}"}, {"({'x' / 'y'} / {'z' / 'w'})", "{'x' / 'y'} / {'z' / 'w'}"},
	})
}

func TestWordsInTexts(t *testing.T) {
	for c := 0; c < 256; c++ {
		in := fmt.Sprintf("\\x%02x", c)
		out := in
		if c >= 32 && c <= 126 {
			out = string([]byte{byte(c)})
		}
		if c == '\'' || c == '\\' {
			out = "\\" + out
		}
		checkText(t, "a <- '"+in+"'", "a <- '"+out+"'\n")
		checkText(t, "a <- 'x"+in+in+"0' '"+out+"'*", "a <- 'x"+out+out+"0' '"+out+"'*\n")
	}
	checkText(t, `a <- '[^]-"' '\x5cx41' '\\x41'`, `a <- '[^]-"' '\\x41' '\\x41'`+"\n")
	// Words stay apart.
	checkText(t, "a <- 'x' 'y' 'xy' ''", "a <- 'x' 'y' 'xy' ''\n")
}

func TestSetsInTexts(t *testing.T) {
	for c := 0; c < 256; c++ {
		in := fmt.Sprintf("\\x%02x", c)
		out := in
		if c >= 32 && c <= 126 {
			out = string([]byte{byte(c)})
		}
		if strings.IndexByte(`]\-^[`, byte(c)) >= 0 {
			out = "\\" + out
		}
		checkText(t, "a <- ["+in+"]", "a <- ["+out+"]\n")
		checkText(t, "a <- ["+in+in+"-"+in+"]+", "a <- ["+out+"]+\n")
	}
	for _, f := range [][2]string{
		{`.`, `.`}, {`[\x00-\xff]`, `.`}, {`[^\x00-\xff]`, `[^\x00-\xff]`}, {`[\x00-\x7f\x80-\xff]`, `.`}, {`[^\x80-\xff\x00-\x7f]`, `[^\x00-\xff]`}, {`[\x01-\xff]`, `[\x01-\xff]`}, {`[^\x00]`, `[\x01-\xff]`}, {`[^\x01-\xff]`, `[\x00]`}, {`[\x00-\xfe]`, `[\x00-\xfe]`}, {`[^\xff]`, `[\x00-\xfe]`},
		{`[ab]`, `[ab]`}, {`[a-b]`, `[ab]`}, {`[abc]`, `[a-c]`}, {`[cba]`, `[a-c]`}, {`[a-c]`, `[a-c]`}, {`[a-bc-d]`, `[a-d]`}, {`[abde]`, `[abde]`}, {`[a-ce]`, `[a-ce]`}, {`[zax]`, `[axz]`}, {`[aaa]`, `[a]`}, {`[a-cb-d]`, `[a-d]`}, {`[0-9a-fx]`, `[0-9a-fx]`}, {`[*/]`, `[*/]`},
		{`[^b]`, `[\x00-ac-\xff]`}, {`[^a-c]`, "[\\x00-`d-\\xff]"}, {`[^\x02]`, `[\x00\x01\x03-\xff]`}, {`[^\x03]`, `[\x00-\x02\x04-\xff]`}, {`[^\xfd]`, `[\x00-\xfc\xfe\xff]`}, {`[^\xfc]`, `[\x00-\xfb\xfd-\xff]`}, {`[^\x00\x02-\xff]`, `[\x01]`},
		{`[\x1e-\x21]`, `[\x1e-!]`}, {`[\x1f\x20]`, `[\x1f ]`}, {`[}~\x7f\x80]`, `[}-\x80]`}, {`[~\x7f]`, `[~\x7f]`}, {`[\[-\]]`, `[\[-\]]`}, {`[Z-\[]`, `[Z\[]`}, {`[+-\-]`, `[+-\-]`}, {`[\^-a]`, "[\\^-a]"}, {`['"]`, `["']`}, {`[\[\]]`, `[\[\]]`}, {`[^\^]`, `[\x00-\]_-\xff]`},
	} {
		checkText(t, "a <- "+f[0], "a <- "+f[1]+"\n")
		checkText(t, "a <- !("+f[0]+")* 'x'", "a <- !"+f[1]+"* 'x'\n")
	}
}

func TestTextsAtTheBounds(t *testing.T) {
	open, closing := opened(api.MaxDepth)
	checkText(t, "a <- "+open+"'x'"+closing, "a <- "+strings.ReplaceAll(open, "(", "")+"'x'"+strings.ReplaceAll(closing, ")", "")+"\n")
	all := strings.Repeat("(", api.MaxDepth) + "'x' 'y'" + strings.Repeat(")?", api.MaxDepth)
	checkText(t, "a <- "+all, "a <- ('x' 'y')"+strings.Repeat("?", api.MaxDepth)+"\n")
	needed := strings.Repeat("('y' ", api.MaxDepth) + "'x'" + strings.Repeat(")?", api.MaxDepth)
	checkText(t, "a <- "+needed, "a <- "+needed+"\n")
	n := api.MaxText - 6
	checkText(t, "a <- "+strings.Repeat("!", n)+".", "a <- "+strings.Repeat("!", n)+".\n")
	checkText(t, "a <- ."+strings.Repeat("?", n), "a <- ."+strings.Repeat("?", n)+"\n")
	checkText(t, "a <- '"+strings.Repeat("x", n-1)+"'", "a <- '"+strings.Repeat("x", n-1)+"'\n")
	// A text may well be longer than a grammar may be.
	checkText(t, "a <- "+strings.Repeat(".", n+1), "a <-"+strings.Repeat(" .", n+1)+"\n")
	checkText(t, "a <- "+strings.Repeat("/", n+1), "a <- ''"+strings.Repeat(" / ''", n+1)+"\n")
	k := n / 4
	checkText(t, "a <- "+strings.Repeat("[^x]", k), "a <-"+strings.Repeat(" [\\x00-wy-\\xff]", k)+"\n")
}
