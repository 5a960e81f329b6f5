package grammar

import "peg/api"

// fails is told instead of the place up to which something matches.
const fails = -1

// matcher matches a subject. What a term does at a place is always the same,
// so it is found out once and noted: else repetitions and looks ahead within
// each other, and rules that name rules, would be gone through too often.
type matcher struct {
	terms   []term
	subject string
	notes   []int // for each term at each place: see noted
}

// noted is what a note is greater by than the answer that it is of, so that
// the note of none, 0, is not one of an answer.
const noted = 2

// Match: by the first rule, from a place on (P5), and what is caught (P6).
func (x *Grammar) Match(s string, at int) (int, string, bool, api.Errno) {
	if len(s) > api.MaxSubject {
		return 0, "", false, api.ErrLong
	}
	if at < 0 || at > len(s) {
		return 0, "", false, api.ErrArg
	}
	if x == nil {
		return 0, "", false, api.OK
	}
	m := matcher{terms: x.terms, subject: s, notes: make([]int, len(x.terms)*(len(s)+1))}
	to := m.match(0, at)
	if to == fails {
		return 0, "", false, api.OK
	}
	caught := m.caught(0, at)
	return to, caught, true, api.OK
}

// note answers the number of the note of a term at a place, or fails if there
// is no such term or place.
func (m *matcher) note(i int, at int) int {
	if i < 0 || i >= len(m.terms) || at < 0 || at > len(m.subject) {
		return fails
	}
	return i*(len(m.subject)+1) + at
}

// match answers the place up to which a term matches at a place, or fails. It
// ends, since no term comes back to itself at the same place: of a rule that
// could Compile tells ErrLeft.
func (m *matcher) match(i int, at int) int {
	note := m.note(i, at)
	if note < 0 || note >= len(m.notes) {
		return fails
	}
	if m.notes[note] == 0 {
		to := m.run(m.terms[i], at)
		m.notes[note] = to + noted
	}
	return m.notes[note] - noted
}

// run answers what match does, but of a term that nothing is noted of.
func (m *matcher) run(t term, at int) int {
	switch t.kind {
	case wordNode:
		return m.word(t.text, at)
	case byteNode:
		return m.oneOf(t.text, at)
	case placeNode:
		return at
	case nameNode, partNode, rowNode:
		return m.row(t.kids, at)
	case choiceNode:
		return m.choice(t.kids, at)
	case andNode:
		return m.and(t.kids, at)
	case notNode:
		return m.not(t.kids, at)
	case starNode:
		return m.star(t.kids, at)
	case plusNode:
		return m.plus(t.kids, at)
	case queryNode:
		return m.query(t.kids, at)
	}
	return fails
}

func (m *matcher) word(word string, at int) int {
	for i := 0; i < len(word); i++ {
		if at+i >= len(m.subject) || m.subject[at+i] != word[i] {
			return fails
		}
	}
	return at + len(word)
}

func (m *matcher) oneOf(set string, at int) int {
	if at >= len(m.subject) {
		return fails
	}
	for i := 0; i < len(set); i++ {
		if m.subject[at] == set[i] {
			return at + 1
		}
	}
	return fails
}

// row is called of one term, too: the row of that does what it does.
func (m *matcher) row(list []int, at int) int {
	for _, i := range list {
		at = m.match(i, at)
		if at == fails {
			return fails
		}
	}
	return at
}

func (m *matcher) choice(list []int, at int) int {
	for _, i := range list {
		to := m.match(i, at)
		if to != fails {
			return to
		}
	}
	return fails
}

func (m *matcher) and(list []int, at int) int {
	to := m.row(list, at)
	if to == fails {
		return fails
	}
	return at
}

func (m *matcher) not(list []int, at int) int {
	to := m.row(list, at)
	if to == fails {
		return at
	}
	return fails
}

// star ends, since each time goes further: of what may match nothing Compile
// tells ErrLoop. What goes no further has failed.
func (m *matcher) star(list []int, at int) int {
	to := m.row(list, at)
	for to > at {
		at = to
		to = m.row(list, at)
	}
	return at
}

func (m *matcher) plus(list []int, at int) int {
	to := m.row(list, at)
	if to == fails {
		return fails
	}
	return m.star(list, to)
}

func (m *matcher) query(list []int, at int) int {
	to := m.row(list, at)
	if to == fails {
		return at
	}
	return to
}
