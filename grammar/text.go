package grammar

import "peg/token"

// level tells how much holds a term together: where one of some level is asked
// for, a term of a lower one stands in brackets. It need not tell rows from
// choices: no row is an item of a row, and no choice a row of a choice.
type level int

const (
	wholeLevel  level = iota // a whole expression, or a row of a choice
	itemLevel                // an item of a row, or behind a & or !
	singleLevel              // ahead of a * + ?
)

func levelOf(k kind) level {
	switch k {
	case rowNode, choiceNode:
		return wholeLevel
	case andNode, notNode:
		return itemLevel
	}
	return singleLevel
}

// Text: its one text (P4).
func (x *Grammar) Text() string {
	if x == nil {
		return ""
	}
	s := ""
	for i, name := range x.names {
		body := x.writeTerm(i, wholeLevel)
		s += name + " <- " + body + "\n"
	}
	return s
}

// write answers the texts of terms, with something between; each stands where
// that level is asked for.
func (x *Grammar) write(list []int, between string, least level) string {
	s := ""
	for n, i := range list {
		if n > 0 {
			s += between
		}
		s += x.writeTerm(i, least)
	}
	return s
}

func (x *Grammar) writeTerm(i int, least level) string {
	if i < 0 || i >= len(x.terms) {
		return ""
	}
	t := x.terms[i]
	s := x.bare(t)
	if levelOf(t.kind) < least {
		return "(" + s + ")"
	}
	return s
}

// bare answers the text of a term without brackets about it.
func (x *Grammar) bare(t term) string {
	switch t.kind {
	case wordNode:
		return token.WriteWord(t.text)
	case byteNode:
		return token.WriteSet(t.text)
	case nameNode:
		return t.text
	case placeNode:
		return "{}"
	case partNode:
		return x.barePart(t)
	case rowNode:
		return x.write(t.kids, " ", itemLevel)
	case choiceNode:
		return x.write(t.kids, " / ", wholeLevel)
	case andNode:
		return "&" + x.write(t.kids, "", itemLevel)
	case notNode:
		return "!" + x.write(t.kids, "", itemLevel)
	case starNode:
		return x.write(t.kids, "", singleLevel) + "*"
	case plusNode:
		return x.write(t.kids, "", singleLevel) + "+"
	case queryNode:
		return x.write(t.kids, "", singleLevel) + "?"
	}
	return ""
}

func (x *Grammar) barePart(t term) string {
	within := x.write(t.kids, "", wholeLevel)
	if t.text == "" {
		return "{" + within + "}"
	}
	return "{" + t.text + ": " + within + "}"
}
