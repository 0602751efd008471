package parse

import (
	"slices"

	"pendulum/api"
)

func (p *parser) node() api.Node {
	var n api.Node
	p.must("node")
	n.Name = p.name()
	p.must("(")
	if !p.at(")") {
		n.In = p.declarations()
	}
	p.must(")")
	p.must("returns")
	p.must("(")
	n.Out = p.declarations()
	p.must(")")
	p.must(";")
	if p.skip("var") {
		n.Local = p.locals()
	}
	p.must("let")
	for p.atName() {
		n.Eqs = append(n.Eqs, p.equation())
		p.must(";")
	}
	p.must("tel")
	return n
}

func (p *parser) declarations() []api.Decl {
	return slices.Concat(list(p, ";", p.group)...)
}

// locals are declarations whose last `;` ends them, so that another group follows only where a name does.
func (p *parser) locals() []api.Decl {
	all := p.group()
	p.must(";")
	for p.atName() {
		all = append(all, p.group()...)
		p.must(";")
	}
	return all
}

// group parses names that are declared together, each with a list of the clocks of its own.
func (p *parser) group() []api.Decl {
	names := list(p, ",", p.mustName)
	p.must(":")
	typ := p.typ()
	var clocks []api.Clock
	for p.skip("when") {
		clocks = append(clocks, p.clock())
	}
	var all []api.Decl
	for _, t := range names {
		all = append(all, api.Decl{Pos: t.Pos, Name: t.Text, Type: typ, Clocks: slices.Clone(clocks)})
	}
	return all
}

func (p *parser) typ() int {
	if p.skip("int") {
		return api.TInt
	}
	p.must("bool")
	return api.TBool
}

// clock parses what stands behind a `when`.
func (p *parser) clock() api.Clock {
	off := p.skip("not")
	return api.Clock{Name: p.name(), On: !off}
}

func (p *parser) equation() api.Equation {
	q := api.Equation{Pos: p.next().Pos, Left: list(p, ",", p.name)}
	p.must("=")
	// Several names have to be given by a call, whatever follows.
	if len(q.Left) > 1 || p.atCall() {
		p.call(&q)
	} else {
		q.Expr = p.expr()
	}
	return q
}

// atCall reports whether a name with a `(` behind it stands next.
func (p *parser) atCall() bool {
	return p.atName() && p.tokens[1].Text == "("
}

// call parses the node, the arguments and the Every of an equation.
func (p *parser) call(q *api.Equation) {
	q.Node = p.name()
	p.must("(")
	if !p.at(")") {
		q.Args = list(p, ",", p.expr)
	}
	p.must(")")
	if p.skip("every") {
		q.Every = p.name()
	}
}
