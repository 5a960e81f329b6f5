package grammar_test

import (
	"fmt"
	"regexp"
	"strings"
	"testing"

	"peg/api"
	"peg/grammar"
)

// This file holds a second reading of P2, written another way than the
// program's (patterns and a stack), and lays the two beside each other on all
// texts of some forms.

const setChar = `(?:[ -,.-Z_-~]|\\[\]\\\-^\[]|\\x[0-9a-f][0-9a-f])`

var (
	namePattern  = regexp.MustCompile(`^[a-z][a-z0-9]*`)
	wordPattern  = regexp.MustCompile(`^'(?:[ -&(-\[\]-~]|\\'|\\\\|\\x[0-9a-f][0-9a-f])*'`)
	setPattern   = regexp.MustCompile(`^\[\^?(?:` + setChar + `(?:-` + setChar + `)?)+\]`)
	rangePattern = regexp.MustCompile(`(` + setChar + `)-(` + setChar + `)|` + setChar)
)

// charValue: of a character of a set.
func charValue(c string) byte {
	if len(c) == 1 {
		return c[0]
	}
	if len(c) == 2 {
		return c[1]
	}
	const digits = "0123456789abcdef"
	return byte(strings.IndexByte(digits, c[2])*16 + strings.IndexByte(digits, c[3]))
}

func rangesRise(set string) bool {
	for _, m := range rangePattern.FindAllStringSubmatch(set, -1) {
		if m[1] != "" && charValue(m[1]) > charValue(m[2]) {
			return false
		}
	}
	return true
}

// piece is a token: its letter is n for a name, r for a name with <- behind
// it, c for one with : behind it, = for <-, w for a word or set, $ for none,
// or the sign itself.
type piece struct {
	letter byte
	at     int
	text   string
}

func cut(s string) piece {
	if m := namePattern.FindString(s); m != "" {
		if len(m) > api.MaxName {
			return piece{letter: '$'}
		}
		return piece{letter: 'n', text: m}
	}
	if m := wordPattern.FindString(s); m != "" {
		return piece{letter: 'w', text: m}
	}
	if m := setPattern.FindString(s); m != "" && rangesRise(m[1:len(m)-1]) {
		return piece{letter: 'w', text: m}
	}
	if strings.HasPrefix(s, "<-") {
		return piece{letter: '=', text: "<-"}
	}
	if strings.IndexByte("/&!*+?.(){}:", s[0]) >= 0 {
		return piece{letter: s[0], text: s[:1]}
	}
	return piece{letter: '$'}
}

// pieces: all tokens up to the first that is none.
func pieces(s string) []piece {
	var list []piece
	for at := 0; ; {
		rest := strings.TrimLeft(s[at:], " \n")
		at = len(s) - len(rest)
		if rest == "" {
			return list
		}
		p := cut(rest)
		p.at = at
		if k := len(list) - 1; k >= 0 && list[k].letter == 'n' {
			switch p.letter {
			case '=':
				list[k].letter = 'r'
			case ':':
				list[k].letter = 'c'
			}
		}
		list = append(list, p)
		if p.letter == '$' {
			return list
		}
		at += len(p.text)
	}
}

// What may come next: a rule, its <-, the : of what is caught, all that may
// follow a row's beginning, an item and nothing else, or, besides all that may
// follow, a sign of repetition.
const (
	wantRule = iota
	wantArrow
	wantColon
	wantAny
	wantItem
	wantSign
)

// second: what Compile should answer by P2; OK, if the text is well written.
func second(s string) (api.Errno, int) {
	if len(s) > api.MaxText {
		return api.ErrLong, 0
	}
	state, open := wantRule, ""
	list := pieces(s)
	for i, p := range list {
		afterBrace := i > 0 && list[i-1].letter == '{'
		next, deep := follow(state, p.letter, &open, afterBrace)
		if deep {
			return api.ErrDeep, p.at
		}
		if next < 0 {
			return api.ErrSyntax, p.at
		}
		state = next
	}
	if open != "" || state == wantArrow || state == wantColon || state == wantItem {
		return api.ErrSyntax, len(s)
	}
	return api.OK, 0
}

// follow: the state behind a token, -1 if it cannot stand there.
func follow(state int, letter byte, open *string, afterBrace bool) (int, bool) {
	switch state {
	case wantRule:
		if letter == 'n' || letter == 'r' || letter == 'c' {
			return wantArrow, false
		}
		return -1, false
	case wantArrow:
		if letter == '=' {
			return wantAny, false
		}
		return -1, false
	case wantColon:
		return wantAny, false
	}
	last := len(*open) - 1
	switch letter {
	case 'n', 'w', '.':
		return wantSign, false
	case 'c':
		if afterBrace {
			return wantColon, false
		}
		return wantSign, false
	case '&', '!':
		return wantItem, false
	case '(', '{':
		*open += string([]byte{letter})
		return wantAny, len(*open) > api.MaxDepth
	}
	if state == wantItem {
		return -1, false
	}
	switch letter {
	case 'r':
		if *open == "" {
			return wantArrow, false
		}
	case '/':
		return wantAny, false
	case '*', '+', '?':
		if state == wantSign {
			return wantSign, false
		}
	case ')', '}':
		if last >= 0 && (*open)[last] == map[byte]byte{')': '(', '}': '{'}[letter] {
			*open = (*open)[:last]
			return wantSign, false
		}
	}
	return -1, false
}

func compare(t *testing.T, s string) {
	x, e, at := grammar.Compile(s)
	wantE, wantAt := second(s)
	if wantE == api.OK {
		if !written(e) {
			t.Fatalf("P2: Compile(%q) = .., %d, %d, but it is well written", s, e, at)
		}
		return
	}
	if x != nil || e != wantE || at != wantAt {
		t.Fatalf("P2: Compile(%q) = %v, %d, %d, want nil, %d, %d", s, x, e, at, wantE, wantAt)
	}
}

// compareAll compares on all texts of up to n of the parts, with head ahead
// and tail behind.
func compareAll(t *testing.T, head string, parts []string, n int, tail string) {
	compare(t, head+tail)
	if n == 0 {
		return
	}
	for _, p := range parts {
		compareAll(t, head+p, parts, n-1, tail)
	}
}

func TestAllShortRowsOfTokens(t *testing.T) {
	all := []string{"a ", "<- ", "/ ", "& ", "! ", "* ", "+ ", "? ", ". ", "( ", ") ", "{ ", "} ", ": ", "'x' ", "[x] ", "$ "}
	compareAll(t, "", all, 4, "")
	compareAll(t, "a <- ", all, 4, "")
	few := []string{"a", "<-", "/", "!", "*", "(", ")", "{", "}", ":"}
	compareAll(t, "a<-", few, 5, "")
}

func TestAllShortRowsOfTokensWithinManyBrackets(t *testing.T) {
	open, closing := opened(api.MaxDepth - 1)
	compareAll(t, "a <- "+open, []string{"a", "<-", "(", ")", "{", "}", ":", "$"}, 5, closing)
}

func TestAllShortWordsAndSets(t *testing.T) {
	compareAll(t, "a<-'", []string{"'", "\\", "x", "4", "f", "g", "A", "[", "-", " ", "\n", "\x7f"}, 5, "")
	compareAll(t, "a<-[", []string{"]", "[", "\\", "^", "-", "x", "4", "a", "'", " ", "\t"}, 5, "")
	for c := 0; c < 256; c++ {
		for d := 0; d < 256; d++ {
			compare(t, fmt.Sprintf("a<-[\\x%02x-\\x%02x]", c, d))
		}
	}
	compareAll(t, "a<-[", []string{"a", "b", "\\x61", "\\xff", "-", "^", "\\]"}, 4, "]")
}

// Every text that differs in one byte from one that is well written.
func TestAllTextsNearBy(t *testing.T) {
	for _, s := range []string{
		"sum <- {s: prod (('+' / '-') prod)*}\nprod <- {p: atom ([*/] atom)*}\natom <- {[0-9]+} / '(' sum ')'\n",
		"a <- {{'x'} {}}+ / &b !(c)? [^\\]a-c\\x00-\\xff]\nb <- '\\'\\\\\\x41'\nabcdefgh <- {n: abcdefgh}",
	} {
		compare(t, s)
		for k := 0; k <= len(s); k++ {
			compare(t, s[:k])
			compare(t, s[k:])
			for c := 0; c < 256; c++ {
				compare(t, s[:k]+string([]byte{byte(c)})+s[k:])
				if k < len(s) {
					compare(t, s[:k]+string([]byte{byte(c)})+s[k+1:])
				}
			}
			if k < len(s) {
				compare(t, s[:k]+s[k+1:])
			}
		}
	}
}
