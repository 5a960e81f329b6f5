package token

import (
	"math"
	"strings"
	"testing"

	"peg/api"
)

func TestNext(t *testing.T) {
	longest := strings.Repeat("n", api.MaxName)
	for _, f := range []struct {
		s    string
		at   int
		want Token
	}{
		{"", 0, Token{End, 0, 0}},
		{" \n ", 0, Token{End, 3, 3}},
		{"a", 1, Token{End, 1, 1}},
		{" \n a", 0, Token{Name, 3, 4}},
		{"ab0c9 d", 0, Token{Name, 0, 5}},
		{"ab0c9 d", 5, Token{Name, 6, 7}},
		{longest, 0, Token{Name, 0, api.MaxName}},
		{longest + " n", 0, Token{Name, 0, api.MaxName}},
		{longest + "n", 0, Token{None, 0, 0}},
		{longest + "0", 0, Token{None, 0, 0}},
		{"aB", 0, Token{Name, 0, 1}},
		{"a_", 0, Token{Name, 0, 1}},
		{"z<-", 0, Token{Name, 0, 1}},
		{"B", 0, Token{None, 0, 0}},
		{"0a", 0, Token{None, 0, 0}},
		{"<-", 0, Token{Arrow, 0, 2}},
		{"<--", 0, Token{Arrow, 0, 2}},
		{"<", 0, Token{None, 0, 0}},
		{"< -", 0, Token{None, 0, 0}},
		{"-", 0, Token{None, 0, 0}},
		{"\\", 0, Token{None, 0, 0}},
		{"]", 0, Token{None, 0, 0}},
		{"^", 0, Token{None, 0, 0}},
		{" \t", 0, Token{None, 1, 1}},
		{"\r\n", 0, Token{None, 0, 0}},
	} {
		if got := Next(f.s, f.at); got != f.want {
			t.Errorf("Next(%q, %d) = %v, want %v", f.s, f.at, got, f.want)
		}
	}
}

func TestOf(t *testing.T) {
	for _, f := range []struct {
		tok  Token
		s    string
		want string
	}{
		{Token{Name, 1, 3}, "-ab-", "ab"}, {Token{Name, 0, 4}, "abcd", "abcd"}, {Token{End, 4, 4}, "abcd", ""}, {Token{}, "", ""},
		{Token{Name, 1, 5}, "abcd", ""}, {Token{Name, 5, 5}, "abcd", ""}, {Token{Name, 3, 2}, "abcd", ""}, {Token{Name, -1, 2}, "abcd", ""}, {Token{Name, -2, -1}, "abcd", ""}, {Token{Name, math.MinInt, math.MaxInt}, "abcd", ""},
	} {
		if got := f.tok.Of(f.s); got != f.want {
			t.Errorf("%v of %q is %q, want %q", f.tok, f.s, got, f.want)
		}
	}
}

func TestSigns(t *testing.T) {
	kinds := []Kind{Slash, And, Not, Star, Plus, Query, Dot, Open, Close, OpenCatch, CloseCatch, Colon}
	signs := "/&!*+?.(){}:"
	for i, want := range kinds {
		// The same sign again: each stands for itself.
		s := " " + strings.Repeat(signs[i:i+1], 2)
		if got := Next(s, 0); got != (Token{want, 1, 2}) {
			t.Errorf("Next(%q, 0) = %v, want kind %d", s, got, want)
		}
	}
	for c := 0; c < 256; c++ {
		s := string([]byte{byte(c)})
		got := Next(s, 0).Kind
		want := None
		switch {
		case c == ' ' || c == '\n':
			want = End
		case c >= 'a' && c <= 'z':
			want = Name
		case strings.Contains(signs, s):
			want = kinds[strings.Index(signs, s)]
		}
		if got != want {
			t.Errorf("Next(%q, 0) is of kind %d, want %d", s, got, want)
		}
	}
}

// checkWhole looks whether all of s is a token of that kind, and whether it
// ends there if more stands behind it.
func checkWhole(t *testing.T, s string, kind Kind) {
	t.Helper()
	for _, behind := range []string{"", " ", "a", "'", "]", "\\"} {
		if got := Next(s+behind, 0); got != (Token{kind, 0, len(s)}) {
			t.Errorf("Next(%q, 0) = %v, want kind %d up to %d", s+behind, got, kind, len(s))
		}
	}
}

func checkNone(t *testing.T, s string) {
	t.Helper()
	if got := Next(" "+s, 0); got != (Token{None, 1, 1}) {
		t.Errorf("Next(%q, 0) = %v, want none", " "+s, got)
	}
}

func TestWords(t *testing.T) {
	for _, s := range []string{`''`, `'x'`, `' '`, `'~'`, `'"[]^-'`, `'\''`, `'\\'`, `'\\\''`, `'\x00'`, `'\xff'`, `'\x0a9'`, `'\x9f'`, `'a<-/b'`} {
		checkWhole(t, s, Word)
	}
	for _, s := range []string{`'`, `'x`, `'\'`, `'\`, `'\x`, `'\x'`, `'\x4'`, `'\x4`, `'\x4g'`, `'\xg4'`, `'\x4A'`, `'\xA4'`, `'\x/0'`, `'\x0:'`, "'\\x`0'", `'\X41'`, `'\n'`, `'\]'`, `'\-'`, "'x\ny'"} {
		checkNone(t, s)
	}
}

func TestSets(t *testing.T) {
	for _, s := range []string{`[a]`, `[^a]`, `[ab]`, `[a-z]`, `[^a-z0-9_]`, `[a-a]`, `[']`, `[ ]`, `[~]`, `[\]]`, `[\\]`, `[\-]`, `[\^]`, `[\[]`, `[^\^]`, `[\x00-\xff]`, `[^\x00-\xff]`, `[\x61-b]`, `[a-\x62]`, `[\--\]]`, `[a-bc-d]`, `[a-bc]`, `[x\x41]`, `[\x09-\x0a]`, `[\x0f-\x10]`, `[\x0a-\x0f]`, `[\x9f-\xa0]`, `[\x60-a]`, `[/-\x30]`} {
		checkWhole(t, s, Set)
	}
	for _, s := range []string{`[`, `[]`, `[^`, `[^]`, `[^^]`, `[a`, `[a-`, `[a-]`, `[-]`, `[-a]`, `[a--]`, `[a-b-c]`, `[a^]`, `[a-^]`, `[[]`, `[a[]`, `[b-a]`, `[\x62-a]`, `[b-\x61]`, `[\xff-\xfe]`, `[\x0a-\x09]`, `[\x10-\x0f]`, `[\xa0-\x9f]`, `[a-\x60]`, `[\x30-/]`, `[\']`, `[\a]`, `[\`, `[\]`, `[\x]`, `[\x4]`, `[\x4g]`, `[\x4A]`, `[a-\x4]`, "[a\nb]"} {
		checkNone(t, s)
	}
}

func TestBytesWithin(t *testing.T) {
	for c := 0; c < 256; c++ {
		b := string([]byte{byte(c)})
		printed := c >= 32 && c <= 126
		if b != "'" {
			s := "'a" + b + "'"
			if got := Next(s, 0).Kind == Word; got != (printed && b != "\\") {
				t.Errorf("%q: a word: %v", s, got)
			}
		}
		if b != "]" {
			s := "[a" + b + "b]"
			// Between two characters a - makes a range.
			if got := Next(s, 0).Kind == Set; got != (printed && b != "\\" && b != "^" && b != "[") {
				t.Errorf("%q: a set: %v", s, got)
			}
		}
		if b != "x" {
			s := "'\\" + b + "'"
			if got := Next(s+"'", 0).To == len(s); got != (b == "'" || b == "\\") {
				t.Errorf("%q: a word: %v", s, got)
			}
			s = "[\\" + b + "]"
			if got := Next(s+"]", 0).To == len(s); got != strings.Contains(`]\-^[`, b) {
				t.Errorf("%q: a set: %v", s, got)
			}
		}
	}
}

func TestPlacesOutside(t *testing.T) {
	for _, s := range []string{"", "a", "'x", "[a", "<"} {
		for _, at := range []int{math.MinInt, -1, len(s) + 1, math.MaxInt} {
			kind := Next(s, at).Kind
			if kind != None && kind != End {
				t.Errorf("Next(%q, %d) is of kind %d", s, at, kind)
			}
		}
	}
}
