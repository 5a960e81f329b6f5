// Package token cuts a grammar's text into tokens, and writes words and sets:
// see DOC.md, 'Tokens' and P4.
package token

import "peg/api"

// Kind tells what stands at a place of a text.
type Kind int

// The kinds: no token, the text's end, and the tokens.
const (
	None Kind = iota
	End
	Name
	Arrow
	Word
	Set
	Slash
	And
	Not
	Star
	Plus
	Query
	Dot
	Open
	Close
	OpenCatch
	CloseCatch
	Colon
)

// Token is the part of a text from From up to To. It is empty if its kind is
// None or End.
type Token struct {
	Kind Kind
	From int
	To   int
}

// Of answers the token's part of the text that it was read from; nothing of a
// text that has no such part. It is a copy, since a part of a text would keep
// the whole of it.
func (t Token) Of(s string) string {
	if t.From < 0 || t.From > t.To || t.To > len(s) {
		return ""
	}
	part := []byte(s[t.From:t.To])
	return string(part)
}

// Next answers the first token of s from the place at on.
func Next(s string, at int) Token {
	from := skipBlanks(s, at)
	if from >= len(s) {
		return Token{Kind: End, From: len(s), To: len(s)}
	}
	kind, to := read(s, from)
	return Token{Kind: kind, From: from, To: to}
}

// byteAt answers -1 where s has no byte, so that the readers need no test of
// their own for the end of s.
func byteAt(s string, at int) int {
	if at < 0 || at >= len(s) {
		return -1
	}
	return int(s[at])
}

func skipBlanks(s string, at int) int {
	c := byteAt(s, at)
	for c == ' ' || c == '\n' {
		at++
		c = byteAt(s, at)
	}
	return at
}

// read answers the kind of what stands right at a place, and the place behind
// it; None and the place itself if no token does.
func read(s string, at int) (Kind, int) {
	c := byteAt(s, at)
	switch {
	case c >= 'a' && c <= 'z':
		return readName(s, at)
	case c == '<':
		return readArrow(s, at)
	case c == '\'':
		return readWord(s, at)
	case c == '[':
		return readSet(s, at)
	}
	kind := signKind(c)
	if kind == None {
		return None, at
	}
	return kind, at + 1
}

func signKind(c int) Kind {
	switch c {
	case '/':
		return Slash
	case '&':
		return And
	case '!':
		return Not
	case '*':
		return Star
	case '+':
		return Plus
	case '?':
		return Query
	case '.':
		return Dot
	case '(':
		return Open
	case ')':
		return Close
	case '{':
		return OpenCatch
	case '}':
		return CloseCatch
	case ':':
		return Colon
	}
	return None
}

// readName takes all letters and digits before it looks at their number: the
// beginning of a name that is too long is no name either.
func readName(s string, at int) (Kind, int) {
	to := at
	c := byteAt(s, to)
	for c >= 'a' && c <= 'z' || c >= '0' && c <= '9' {
		to++
		c = byteAt(s, to)
	}
	if to-at > api.MaxName {
		return None, at
	}
	return Name, to
}

func readArrow(s string, at int) (Kind, int) {
	if byteAt(s, at+1) != '-' {
		return None, at
	}
	return Arrow, at + 2
}

func readWord(s string, at int) (Kind, int) {
	to := at + 1
	for byteAt(s, to) != '\'' {
		c, next := wordChar(s, to)
		if c < 0 {
			return None, at
		}
		to = next
	}
	return Word, to + 1
}

func readSet(s string, at int) (Kind, int) {
	to := at + 1
	if byteAt(s, to) == '^' {
		to++
	}
	first := to
	// A set has a member at least, so the first is asked for unseen.
	for to == first || byteAt(s, to) != ']' {
		low, _, next := readMember(s, to)
		if low < 0 {
			return None, at
		}
		to = next
	}
	return Set, to + 1
}

// readMember answers the least and the greatest byte of the member of a set
// that stands at a place, and the place behind it; -1, -1 and the place itself
// if none does.
func readMember(s string, at int) (int, int, int) {
	low, to := setChar(s, at)
	if low < 0 || byteAt(s, to) != '-' {
		return low, low, to
	}
	high, end := setChar(s, to+1)
	// What is no character is -1, so it is less than any low.
	if high < low {
		return -1, -1, at
	}
	return low, high, end
}
