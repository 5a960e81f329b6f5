package grammar

import "strconv"

// catcher writes what is caught. It goes the way on which a matcher has
// matched, once that is known to its end: so nothing is written of rows that
// fail, of rows that are not taken, or behind a & or !.
type catcher struct {
	matcher *matcher
	silent  []bool // as the matcher's notes: what catches nothing, as far as it is known
	out     []byte
}

// caught answers what a term catches that matches at a place.
func (m *matcher) caught(i int, at int) string {
	c := catcher{matcher: m, silent: make([]bool, len(m.notes))}
	c.term(i, at)
	return string(c.out)
}

// term writes what a term catches that matches at a place. It ends, since the
// matcher has gone that way to its end. What catches nothing there is gone
// through just once: rules that name rules could lead to it too often. What
// else they lead to is told each time.
func (c *catcher) term(i int, at int) {
	note := c.matcher.note(i, at)
	if note < 0 || note >= len(c.silent) || c.silent[note] {
		return
	}
	before := len(c.out)
	c.walk(c.matcher.terms[i], at)
	c.silent[note] = len(c.out) == before
}

// walk writes what term does, but of a term that is not known to be silent.
func (c *catcher) walk(t term, at int) {
	switch t.kind {
	case placeNode:
		c.between()
		c.number(at)
	case partNode:
		c.part(t, at)
	case nameNode, rowNode, queryNode:
		c.row(t.kids, at)
	case choiceNode:
		c.choice(t.kids, at)
	case starNode, plusNode:
		c.rounds(t.kids, at)
	}
}

// row is called of one term, too, that may fail: of what is there once or not
// at all.
func (c *catcher) row(list []int, at int) {
	for _, i := range list {
		to := c.matcher.match(i, at)
		if to == fails {
			return
		}
		c.term(i, at)
		at = to
	}
}

func (c *catcher) choice(list []int, at int) {
	for _, i := range list {
		to := c.matcher.match(i, at)
		if to != fails {
			c.term(i, at)
			return
		}
	}
}

// rounds ends as the matcher's star does.
func (c *catcher) rounds(list []int, at int) {
	to := c.matcher.row(list, at)
	for to > at {
		c.row(list, at)
		at = to
		to = c.matcher.row(list, at)
	}
}

func (c *catcher) part(t term, at int) {
	to := c.matcher.row(t.kids, at)
	c.between()
	if t.text != "" {
		c.out = append(c.out, t.text...)
		c.out = append(c.out, '=')
	}
	c.number(at)
	c.out = append(c.out, '-')
	c.number(to)
	c.within(t.kids, at)
}

// within writes the list of what is caught within a part, and its brackets.
func (c *catcher) within(list []int, at int) {
	before := len(c.out)
	c.out = append(c.out, '(')
	c.row(list, at)
	if len(c.out) == before+1 {
		c.out = c.out[:before]
		return
	}
	c.out = append(c.out, ')')
}

// between writes the blank between two of a list: there is none ahead of the
// first, which stands at the beginning or behind a bracket that opens.
func (c *catcher) between() {
	last := len(c.out) - 1
	if last >= 0 && c.out[last] != '(' {
		c.out = append(c.out, ' ')
	}
}

func (c *catcher) number(n int) {
	digits := strconv.Itoa(n)
	c.out = append(c.out, digits...)
}
