package grammar

import (
	"peg/api"
	"peg/token"
)

// parser goes through a text from the left and stops at the first error, so
// that the token it stands at is always the one the error is told of.
type parser struct {
	text  string
	tok   token.Token
	depth int // brackets that are open
}

// parse tells what is wrong with a text by tokens and rules, and where.
func parse(s string) (api.Errno, int) {
	if len(s) > api.MaxText {
		return api.ErrLong, 0
	}
	first := token.Next(s, 0)
	p := parser{text: s, tok: first}
	for p.tok.Kind != token.End {
		e := p.rule()
		if e != api.OK {
			return e, p.tok.From
		}
	}
	return api.OK, 0
}

func (p *parser) step() {
	p.tok = token.Next(p.text, p.tok.To)
}

// take goes past a token of that kind; any other cannot stand there.
func (p *parser) take(kind token.Kind) api.Errno {
	if p.tok.Kind != kind {
		return api.ErrSyntax
	}
	p.step()
	return api.OK
}

// nameBefore tells whether a name stands here and a token of that kind behind
// it.
func (p *parser) nameBefore(kind token.Kind) bool {
	if p.tok.Kind != token.Name {
		return false
	}
	behind := token.Next(p.text, p.tok.To)
	return behind.Kind == kind
}

func (p *parser) rule() api.Errno {
	e := p.take(token.Name)
	if e != api.OK {
		return e
	}
	e = p.take(token.Arrow)
	if e != api.OK {
		return e
	}
	return p.expression()
}

func (p *parser) expression() api.Errno {
	e := p.row()
	for e == api.OK && p.tok.Kind == token.Slash {
		p.step()
		e = p.row()
	}
	return e
}

func (p *parser) row() api.Errno {
	e := api.OK
	for e == api.OK && p.atItem() {
		e = p.item()
	}
	return e
}

// atItem tells whether the token here begins an item. A name that begins a
// rule does not, even where no rule can begin.
func (p *parser) atItem() bool {
	switch p.tok.Kind {
	case token.And, token.Not, token.Word, token.Set, token.Dot, token.Open, token.OpenCatch:
		return true
	case token.Name:
		begins := p.nameBefore(token.Arrow)
		return !begins
	}
	return false
}

func (p *parser) item() api.Errno {
	for p.tok.Kind == token.And || p.tok.Kind == token.Not {
		p.step()
	}
	// Behind a & or ! anything may stand, so it is looked at anew.
	begins := p.atItem()
	if !begins {
		return api.ErrSyntax
	}
	e := p.single()
	for e == api.OK && p.atRepeat() {
		p.step()
	}
	return e
}

func (p *parser) atRepeat() bool {
	return p.tok.Kind == token.Star || p.tok.Kind == token.Plus || p.tok.Kind == token.Query
}

// single is called where an item begins that has no & or ! ahead.
func (p *parser) single() api.Errno {
	switch p.tok.Kind {
	case token.Open:
		return p.brackets(token.Close)
	case token.OpenCatch:
		return p.brackets(token.CloseCatch)
	}
	p.step()
	return api.OK
}

// brackets is called at an opening bracket. It takes {} too, as brackets about
// a row of no items.
func (p *parser) brackets(closing token.Kind) api.Errno {
	if p.depth >= api.MaxDepth {
		return api.ErrDeep
	}
	p.depth++
	p.step()
	if closing == token.CloseCatch {
		p.catchName()
	}
	e := p.expression()
	if e != api.OK {
		return e
	}
	p.depth--
	return p.take(closing)
}

// catchName goes past the name of what is caught, if there is one.
func (p *parser) catchName() {
	named := p.nameBefore(token.Colon)
	if !named {
		return
	}
	p.step()
	p.step()
}
