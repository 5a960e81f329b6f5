// Package grammar: grammars, and what they match: see DOC.md.
package grammar

import "peg/api"

// Grammar: of a text.
type Grammar struct {
	names []string // of the rules, in order
}

// Compile: the grammar of a text, or what is wrong with it, and where (P2, P3).
func Compile(s string) (*Grammar, api.Errno, int) {
	rules, e, at := parse(s)
	if e != api.OK {
		return nil, e, at
	}
	e, at = check(rules)
	if e != api.OK {
		return nil, e, at
	}
	return &Grammar{names: namesOf(rules)}, api.OK, 0
}

// namesOf answers the names of rules. They are copied, since a part of a text
// would keep the whole of it.
func namesOf(rules []rule) []string {
	names := make([]string, 0, len(rules))
	for _, r := range rules {
		name := []byte(r.name)
		names = append(names, string(name))
	}
	return names
}

// Rules: the names of its rules, in order (P3). The list is a new one each
// time, so that it is the caller's (P1).
func (x *Grammar) Rules() []string {
	if x == nil {
		return nil
	}
	names := make([]string, 0, len(x.names))
	for _, name := range x.names {
		names = append(names, name)
	}
	return names
}

// Text: its one text (P4).
func (x *Grammar) Text() string { return "" }

// Match: by the first rule, from a place on (P5, P6).
func (x *Grammar) Match(s string, at int) (int, string, bool, api.Errno) {
	return 0, "", false, api.OK
}
