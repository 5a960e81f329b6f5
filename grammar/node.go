package grammar

// kind tells what a node is.
type kind int

const (
	wordNode kind = iota
	byteNode      // a set or a dot
	nameNode
	placeNode // {}
	partNode  // any other braces
	rowNode
	choiceNode
	andNode
	notNode
	starNode
	plusNode
	queryNode
)

// node is an expression or a part of one. Brackets ( ) have none of their own:
// they do what stands within.
type node struct {
	kind  kind
	at    int    // in the text, of a name or a sign of repetition
	name  string // of a nameNode
	empty bool   // of a wordNode: it has no characters
	kids  []node // what stands within, in the order of the text
}

// rule is a rule as it is written, and what a checker finds out about it.
type rule struct {
	name   string
	at     int // in the text, of its name
	body   node
	empty  bool // it may match nothing
	begins int  // the rules it may begin with: see bit
}

// find answers the number of the first rule of a name, -1 if there is none.
func find(rules []rule, name string) int {
	for i, r := range rules {
		if r.name == name {
			return i
		}
	}
	return -1
}
