package grammar

// kind tells what a node is.
type kind int

const (
	wordNode kind = iota
	byteNode      // a set or a dot
	nameNode
	placeNode // {}
	partNode  // any other braces
	rowNode
	choiceNode
	andNode
	notNode
	starNode
	plusNode
	queryNode
)

// node is an expression or a part of one. Brackets ( ) have none of their own:
// they do what stands within. Nor has a row or choice of just one: see joined.
type node struct {
	kind kind
	at   int    // in the text, of a name or a sign of repetition
	text string // the bytes of a word or set, or the name; of braces the name of what they catch, if any
	kids []node // what stands within, in the order of the text
}

// joined answers the row of items, or the choice of rows. A row that is an item
// of a row gives it its own items, a choice that is a row of a choice likewise;
// the row of no items does what the empty word does.
func joined(k kind, list []node) node {
	var kids []node
	for _, n := range list {
		if n.kind == k {
			kids = append(kids, n.kids...)
		} else {
			kids = append(kids, n)
		}
	}
	switch len(kids) {
	case 0:
		return node{kind: wordNode}
	case 1:
		return kids[0]
	}
	return node{kind: k, kids: kids}
}

// rule is a rule as it is written, and what a checker finds out about it.
type rule struct {
	name   string
	at     int // in the text, of its name
	body   node
	empty  bool // it may match nothing
	begins int  // the rules it may begin with: see bit
}

// find answers the number of the first rule of a name, -1 if there is none.
func find(rules []rule, name string) int {
	for i, r := range rules {
		if r.name == name {
			return i
		}
	}
	return -1
}
