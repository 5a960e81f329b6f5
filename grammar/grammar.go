// Package grammar: grammars, and what they match: see DOC.md.
package grammar

import "peg/api"

// Grammar: of a text.
type Grammar struct {
	names []string // of the rules, in order
	terms []term   // ahead the rules' expressions, in order
}

// Compile: the grammar of a text, or what is wrong with it, and where (P2, P3).
func Compile(s string) (*Grammar, api.Errno, int) {
	rules, e, at := parse(s)
	if e != api.OK {
		return nil, e, at
	}
	e, at = check(rules)
	if e != api.OK {
		return nil, e, at
	}
	return build(rules), api.OK, 0
}

// Rules: the names of its rules, in order (P3). The list is a new one each
// time, so that it is the caller's (P1).
func (x *Grammar) Rules() []string {
	if x == nil {
		return nil
	}
	names := make([]string, 0, len(x.names))
	for _, name := range x.names {
		names = append(names, name)
	}
	return names
}
