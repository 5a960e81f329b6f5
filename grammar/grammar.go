// Package grammar: grammars, and what they match: see DOC.md.
package grammar

import "peg/api"

// Grammar: of a text.
type Grammar struct{}

// Compile: the grammar of a text, or what is wrong with it, and where (P2, P3).
func Compile(s string) (*Grammar, api.Errno, int) {
	e, at := parse(s)
	if e != api.OK {
		return nil, e, at
	}
	return &Grammar{}, api.OK, 0
}

// Rules: the names of its rules (P3).
func (x *Grammar) Rules() []string { return nil }

// Text: its one text (P4).
func (x *Grammar) Text() string { return "" }

// Match: by the first rule, from a place on (P5, P6).
func (x *Grammar) Match(s string, at int) (int, string, bool, api.Errno) {
	return 0, "", false, api.OK
}
