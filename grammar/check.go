package grammar

import "peg/api"

// nowhere stands for the place of a fault that is not there.
const nowhere = -1

// checker looks at what rules that are well written mean to each other. The
// rules are its own: it writes into them what it finds out.
type checker struct {
	rules []rule
}

// check tells the first of the faults that rules have with each other, and
// where. Each test leans on those ahead of it: on few rules, of names that are
// all different, and that are all there.
func check(rules []rule) (api.Errno, int) {
	if len(rules) == 0 || len(rules) > api.MaxRules {
		return api.ErrRules, 0
	}
	c := checker{rules: append([]rule{}, rules...)}
	at := c.twice()
	if at != nowhere {
		return api.ErrTwice, at
	}
	at = c.unknown()
	if at != nowhere {
		return api.ErrNone, at
	}
	c.findEmpty()
	c.findBegins()
	at = c.left()
	if at != nowhere {
		return api.ErrLeft, at
	}
	at = c.loop()
	if at != nowhere {
		return api.ErrLoop, at
	}
	return api.OK, 0
}

// twice answers the place of the first rule of a name that a rule ahead has.
func (c *checker) twice() int {
	for i, r := range c.rules {
		first := find(c.rules, r.name)
		if first < i {
			return r.at
		}
	}
	return nowhere
}

// unknown answers the place of the first name that no rule has.
func (c *checker) unknown() int {
	for _, r := range c.rules {
		at := c.unknownIn(r.body)
		if at != nowhere {
			return at
		}
	}
	return nowhere
}

func (c *checker) unknownIn(n node) int {
	if n.kind == nameNode && find(c.rules, n.text) < 0 {
		return n.at
	}
	for _, k := range n.kids {
		at := c.unknownIn(k)
		if at != nowhere {
			return at
		}
	}
	return nowhere
}

// left answers the place of the first rule that may begin with itself.
func (c *checker) left() int {
	for i, r := range c.rules {
		if r.begins&bit(i) != 0 {
			return r.at
		}
	}
	return nowhere
}

// loop answers the place of the first * or + behind what may match nothing.
func (c *checker) loop() int {
	for _, r := range c.rules {
		at := c.loopIn(r.body)
		if at != nowhere {
			return at
		}
	}
	return nowhere
}

// loopIn looks within first, since a sign stands behind what it repeats.
func (c *checker) loopIn(n node) int {
	for _, k := range n.kids {
		at := c.loopIn(k)
		if at != nowhere {
			return at
		}
	}
	if n.kind != starNode && n.kind != plusNode {
		return nowhere
	}
	empty := c.allEmpty(n.kids)
	if empty {
		return n.at
	}
	return nowhere
}
