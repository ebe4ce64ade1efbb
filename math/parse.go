package math

import (
	"strings"

	"klaxon/api"
)

const blank = " "

// parser stands at a token. Each error is of the token that it stands at, so
// the place of that one is the error's.
type parser struct {
	text  string
	place int
	token token
}

// Parse is the tree of s, or an error and its place (P11.2).
func Parse(s string) (api.Expr, api.Errno, int) {
	if len(s) > api.MaxExpr {
		return api.Expr{}, api.ErrLong, 0
	}
	p := parser{text: s}
	p.next()
	x, err := p.operation(levelOr, 0)
	if err == api.OK && p.token.kind != tokenEnd {
		err = api.ErrExpr
	}
	if err != api.OK {
		return api.Expr{}, err, p.place
	}
	return x, api.OK, 0
}

// next goes to the token behind this one, past the blanks between them.
func (p *parser) next() {
	rest := strings.TrimLeft(p.text[p.place+p.token.size:], blank)
	p.place = len(p.text) - len(rest)
	p.token = firstToken(rest)
}

// operation reads operations of this level and of those that bind closer; it
// stands in nest others, as do all its operands.
func (p *parser) operation(level, nest int) (api.Expr, api.Errno) {
	if level == levelCount {
		return p.operand(nest)
	}
	x, err := p.operation(level+1, nest)
	for err == api.OK && p.token.level() == level {
		name := p.token.text
		p.next()
		var right api.Expr
		right, err = p.operation(level+1, nest)
		x = call(name, x, right)
		if level == levelRel {
			break
		}
	}
	return x, err
}

// operand reads a sign with its operand, or what stands alone. What is nested
// too deep begins here, and it is asked first whether anything begins at all.
func (p *parser) operand(nest int) (api.Expr, api.Errno) {
	t := p.token
	switch {
	case !t.opens():
		return api.Expr{}, api.ErrExpr
	case nest > api.MaxNest:
		return api.Expr{}, api.ErrDeep
	case t.text == "(":
		return p.bracketed(nest)
	}
	p.next()
	switch t.kind {
	case tokenValue:
		return api.Expr{Kind: api.ExprNum, Value: t.value}, api.OK
	case tokenRef:
		return api.Expr{Kind: api.ExprRef, Name: t.text}, api.OK
	case tokenFunction:
		kid, err := p.bracketed(nest)
		return call(t.text, kid), err
	}
	kid, err := p.operand(nest + 1)
	return call(t.text, kid), err
}

func (p *parser) bracketed(nest int) (api.Expr, api.Errno) {
	if p.token.text != "(" {
		return api.Expr{}, api.ErrExpr
	}
	p.next()
	x, err := p.operation(levelOr, nest+1)
	if err != api.OK {
		return api.Expr{}, err
	}
	if p.token.text != ")" {
		return api.Expr{}, api.ErrExpr
	}
	p.next()
	return x, api.OK
}

func call(name string, kids ...api.Expr) api.Expr {
	return api.Expr{Kind: api.ExprCall, Name: name, Kids: kids}
}
