package grammar

import (
	"peg/api"
	"peg/token"
)

// parser goes through a text from the left and stops at the first error, so
// that the token it stands at is always the one the error is told of.
type parser struct {
	text  string
	tok   token.Token
	depth int // brackets that are open
}

// parse answers the rules of a text, or what is wrong with it by tokens and
// rules, and where.
func parse(s string) ([]rule, api.Errno, int) {
	if len(s) > api.MaxText {
		return nil, api.ErrLong, 0
	}
	first := token.Next(s, 0)
	p := parser{text: s, tok: first}
	var rules []rule
	for p.tok.Kind != token.End {
		r, e := p.rule()
		if e != api.OK {
			return nil, e, p.tok.From
		}
		rules = append(rules, r)
	}
	return rules, api.OK, 0
}

func (p *parser) step() {
	p.tok = token.Next(p.text, p.tok.To)
}

// take goes past a token of that kind; any other cannot stand there.
func (p *parser) take(kind token.Kind) api.Errno {
	if p.tok.Kind != kind {
		return api.ErrSyntax
	}
	p.step()
	return api.OK
}

// nameBefore tells whether a name stands here and a token of that kind behind
// it.
func (p *parser) nameBefore(kind token.Kind) bool {
	if p.tok.Kind != token.Name {
		return false
	}
	behind := token.Next(p.text, p.tok.To)
	return behind.Kind == kind
}

func (p *parser) rule() (rule, api.Errno) {
	name := p.tok
	e := p.take(token.Name)
	if e != api.OK {
		return rule{}, e
	}
	e = p.take(token.Arrow)
	if e != api.OK {
		return rule{}, e
	}
	body, e := p.expression()
	if e != api.OK {
		return rule{}, e
	}
	return rule{name: name.Of(p.text), at: name.From, body: body}, api.OK
}

func (p *parser) expression() (node, api.Errno) {
	first, e := p.row()
	rows := []node{first}
	for e == api.OK && p.tok.Kind == token.Slash {
		p.step()
		next, wrong := p.row()
		rows = append(rows, next)
		e = wrong
	}
	if e != api.OK {
		return node{}, e
	}
	return joined(choiceNode, rows), api.OK
}

func (p *parser) row() (node, api.Errno) {
	var items []node
	begins := p.atItem()
	for begins {
		next, e := p.item()
		if e != api.OK {
			return node{}, e
		}
		items = append(items, next)
		begins = p.atItem()
	}
	return joined(rowNode, items), api.OK
}

// atItem tells whether the token here begins an item. A name that begins a
// rule does not, even where no rule can begin.
func (p *parser) atItem() bool {
	switch p.tok.Kind {
	case token.And, token.Not, token.Word, token.Set, token.Dot, token.Open, token.OpenCatch:
		return true
	case token.Name:
		begins := p.nameBefore(token.Arrow)
		return !begins
	}
	return false
}

func (p *parser) item() (node, api.Errno) {
	switch p.tok.Kind {
	case token.And:
		return p.look(andNode)
	case token.Not:
		return p.look(notNode)
	}
	return p.repeated()
}

// look is called at a & or !.
func (p *parser) look(k kind) (node, api.Errno) {
	p.step()
	// Behind the sign anything may stand, so it is looked at anew.
	begins := p.atItem()
	if !begins {
		return node{}, api.ErrSyntax
	}
	within, e := p.item()
	if e != api.OK {
		return node{}, e
	}
	return node{kind: k, kids: []node{within}}, api.OK
}

// repeated reads a single and the signs behind it, each of which goes for all
// ahead of it.
func (p *parser) repeated() (node, api.Errno) {
	n, e := p.single()
	if e != api.OK {
		return node{}, e
	}
	for p.atRepeat() {
		n = node{kind: repeatKind(p.tok.Kind), at: p.tok.From, kids: []node{n}}
		p.step()
	}
	return n, api.OK
}

func (p *parser) atRepeat() bool {
	return p.tok.Kind == token.Star || p.tok.Kind == token.Plus || p.tok.Kind == token.Query
}

// repeatKind answers the kind of node that a sign of repetition makes.
func repeatKind(sign token.Kind) kind {
	switch sign {
	case token.Star:
		return starNode
	case token.Plus:
		return plusNode
	}
	return queryNode
}

// single is called where an item begins that has no & or ! ahead.
func (p *parser) single() (node, api.Errno) {
	tok := p.tok
	switch tok.Kind {
	case token.Open:
		return p.brackets()
	case token.OpenCatch:
		return p.catch()
	}
	p.step()
	switch tok.Kind {
	case token.Name:
		return node{kind: nameNode, at: tok.From, text: tok.Of(p.text)}, api.OK
	case token.Word:
		return node{kind: wordNode, text: tok.Bytes(p.text)}, api.OK
	}
	return node{kind: byteNode, text: tok.Bytes(p.text)}, api.OK
}

// open goes past an opening bracket.
func (p *parser) open() api.Errno {
	if p.depth >= api.MaxDepth {
		return api.ErrDeep
	}
	p.depth++
	p.step()
	return api.OK
}

// within reads what stands within brackets, and goes past the closing one.
func (p *parser) within(closing token.Kind) (node, api.Errno) {
	n, e := p.expression()
	if e != api.OK {
		return node{}, e
	}
	e = p.take(closing)
	if e != api.OK {
		return node{}, e
	}
	p.depth--
	return n, api.OK
}

func (p *parser) brackets() (node, api.Errno) {
	e := p.open()
	if e != api.OK {
		return node{}, e
	}
	return p.within(token.Close)
}

func (p *parser) catch() (node, api.Errno) {
	e := p.open()
	if e != api.OK {
		return node{}, e
	}
	if p.tok.Kind == token.CloseCatch {
		p.depth--
		p.step()
		return node{kind: placeNode}, api.OK
	}
	name := p.catchName()
	n, e := p.within(token.CloseCatch)
	if e != api.OK {
		return node{}, e
	}
	return node{kind: partNode, text: name, kids: []node{n}}, api.OK
}

// catchName goes past the name of what is caught, and answers it, if there is
// one.
func (p *parser) catchName() string {
	named := p.nameBefore(token.Colon)
	if !named {
		return ""
	}
	name := p.tok
	p.step()
	p.step()
	return name.Of(p.text)
}
