package grammar

// findEmpty finds out which rules may match nothing. At first none is said to,
// and a round adds those that do by what is known, so that a ring of rules
// says nothing for itself; it ends with a round that adds none.
func (c *checker) findEmpty() {
	more := true
	for more {
		more = false
		for i, r := range c.rules {
			empty := c.mayBeEmpty(r.body)
			if empty && !r.empty {
				c.rules[i].empty = true
				more = true
			}
		}
	}
}

// mayBeEmpty tells whether a node may match nothing, by what is known of the
// rules.
func (c *checker) mayBeEmpty(n node) bool {
	switch n.kind {
	case wordNode:
		return n.text == ""
	case nameNode:
		i := find(c.rules, n.text)
		return i >= 0 && c.rules[i].empty
	case placeNode, andNode, notNode, starNode, queryNode:
		return true
	case plusNode, partNode, rowNode:
		return c.allEmpty(n.kids)
	case choiceNode:
		return c.anyEmpty(n.kids)
	}
	return false
}

func (c *checker) allEmpty(list []node) bool {
	for _, n := range list {
		empty := c.mayBeEmpty(n)
		if !empty {
			return false
		}
	}
	return true
}

func (c *checker) anyEmpty(list []node) bool {
	for _, n := range list {
		empty := c.mayBeEmpty(n)
		if empty {
			return true
		}
	}
	return false
}

// bit stands for a rule in a set of rules that is kept as a number.
func bit(i int) int {
	return 1 << uint(i)
}

// findBegins finds out what the rules may begin with, in rounds as findEmpty,
// which must have been called ahead.
func (c *checker) findBegins() {
	more := true
	for more {
		more = false
		for i, r := range c.rules {
			begins := c.mayBegin(r.body)
			if begins != r.begins {
				c.rules[i].begins = begins
				more = true
			}
		}
	}
}

// mayBegin answers the set of the rules that a node may begin with, by what is
// known of the rules.
func (c *checker) mayBegin(n node) int {
	if n.kind == nameNode {
		i := find(c.rules, n.text)
		if i < 0 {
			return 0
		}
		return bit(i) | c.rules[i].begins
	}
	set := 0
	for _, k := range n.kids {
		begins := c.mayBegin(k)
		set |= begins
		if n.kind != rowNode {
			continue
		}
		empty := c.mayBeEmpty(k)
		if !empty {
			return set
		}
	}
	return set
}
