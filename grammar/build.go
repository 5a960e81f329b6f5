package grammar

// term is a node as a grammar keeps it: without its place in the text, and
// with a number, so that what it matches can be noted by that.
type term struct {
	kind kind
	text string // as of a node
	kids []int  // the terms within, in order; of a name its rule's
}

// builder makes the terms of rules. Those of their expressions are the first,
// so that a rule and its expression have the same number.
type builder struct {
	rules []rule
	terms []term
}

// build answers the grammar of rules in which nothing is wrong.
func build(rules []rule) *Grammar {
	b := builder{rules: rules, terms: make([]term, len(rules))}
	var names []string
	for i, r := range rules {
		t := b.term(r.body)
		b.terms[i] = t
		names = append(names, r.name)
	}
	return &Grammar{names: names, terms: b.terms}
}

// term answers the term of a node, and lays down those within.
func (b *builder) term(n node) term {
	t := term{kind: n.kind, text: n.text}
	if n.kind == nameNode {
		rule := find(b.rules, n.text)
		t.kids = append(t.kids, rule)
	}
	for _, k := range n.kids {
		within := b.term(k)
		t.kids = append(t.kids, len(b.terms))
		b.terms = append(b.terms, within)
	}
	return t
}
