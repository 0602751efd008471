package parse

import (
	"pendulum/api"
	"pendulum/lex"
)

// maxOpen is how many parts may be open.
const maxOpen = 2 * api.MaxNest

// open parses a part that is open from the next token on until it is complete.
func (p *parser) open(item func() api.Expr) api.Expr {
	if p.opened == maxOpen {
		p.stop(api.ErrDeep)
		return api.Expr{}
	}
	p.opened++
	e := item()
	p.opened--
	return e
}

// expr parses an expression where one begins.
func (p *parser) expr() api.Expr {
	return p.ifOr(p.arrow)
}

// ifOr parses an `if` where one is allowed without parentheses, or something else if none stands there.
func (p *parser) ifOr(other func() api.Expr) api.Expr {
	if p.at("if") {
		return p.open(p.choice)
	}
	return other()
}

func (p *parser) choice() api.Expr {
	pos := p.take().Pos
	condition := p.expr()
	p.must("then")
	yes := p.expr()
	p.must("else")
	return api.Expr{Op: api.If, Pos: pos, L: []api.Expr{condition, yes, p.expr()}}
}

func (p *parser) arrow() api.Expr {
	left := p.fby()
	if !p.at("->") {
		return left
	}
	return p.open(func() api.Expr { return p.pair(api.Arrow, left, p.expr) })
}

func (p *parser) fby() api.Expr {
	left := p.infix(disjunction)
	if !p.at("fby") {
		return left
	}
	right := func() api.Expr { return p.ifOr(p.fby) }
	return p.open(func() api.Expr { return p.pair(api.Fby, left, right) })
}

// pair parses an operator, which stands next, and its right operand.
func (p *parser) pair(op int, left api.Expr, right func() api.Expr) api.Expr {
	pos := p.take().Pos
	return api.Expr{Op: op, Pos: pos, L: []api.Expr{left, right()}}
}

// The levels of the operators in infixes, from the weakest to the strongest.
const (
	disjunction = iota
	conjunction
	comparison
	sum
	product
	levels
)

// infixes are the operators between two operands but for `->` and `fby`.
var infixes = [...]struct {
	text      string
	op, level int
}{
	{"or", api.Or, disjunction},
	{"xor", api.Xor, disjunction},
	{"and", api.And, conjunction},
	{"=", api.Eq, comparison},
	{"<>", api.Ne, comparison},
	{"<", api.Lt, comparison},
	{"<=", api.Le, comparison},
	{">", api.Gt, comparison},
	{">=", api.Ge, comparison},
	{"+", api.Add, sum},
	{"-", api.Sub, sum},
	{"*", api.Mul, product},
	{"/", api.Div, product},
	{"mod", api.Mod, product},
}

// noOp is what no part has as its Op.
const noOp = 0

// infixAt returns the Op of the operator of that level which stands next, or noOp.
func (p *parser) infixAt(level int) int {
	for _, x := range infixes {
		if x.level == level && p.at(x.text) {
			return x.op
		}
	}
	return noOp
}

// infix parses operands with the operators of that level, and of the stronger ones, between them.
func (p *parser) infix(level int) api.Expr {
	if level == levels {
		return p.prefix()
	}
	stronger := func() api.Expr { return p.infix(level + 1) }
	e := stronger()
	for op := p.infixAt(level); op != noOp; op = p.infixAt(level) {
		e = p.pair(op, e, stronger)
		// Without parentheses a comparison is no operand of another one.
		if level == comparison {
			break
		}
	}
	return e
}

// prefixAt returns the Op of the prefix operator which stands next, or noOp.
func (p *parser) prefixAt() int {
	switch p.next().Text {
	case "-":
		return api.Neg
	case "not":
		return api.Not
	case "pre":
		return api.Pre
	}
	return noOp
}

func (p *parser) prefix() api.Expr {
	op := p.prefixAt()
	if op == noOp {
		return p.postfix()
	}
	return p.open(func() api.Expr {
		pos := p.take().Pos
		return api.Expr{Op: op, Pos: pos, L: []api.Expr{p.prefix()}}
	})
}

func (p *parser) postfix() api.Expr {
	e := p.primary()
	for p.at("when") {
		pos := p.take().Pos
		c := p.clock()
		e = api.Expr{Op: api.When, Pos: pos, N: number(c.On), Name: c.Name, L: []api.Expr{e}}
	}
	return e
}

func number(truth bool) int64 {
	if truth {
		return 1
	}
	return 0
}

func (p *parser) primary() api.Expr {
	switch t := p.next(); {
	case p.at("("):
		return p.open(p.inParentheses)
	case p.at("merge"):
		return p.open(p.merge)
	case t.Kind == lex.Name:
		return api.Expr{Op: api.Var, Pos: t.Pos, Name: p.take().Text}
	case t.Kind == lex.Number:
		return api.Expr{Op: api.Int, Pos: t.Pos, N: p.take().N}
	case p.at("true"), p.at("false"):
		return api.Expr{Op: api.Bool, Pos: t.Pos, N: number(p.take().Text == "true")}
	}
	p.refuse()
	return api.Expr{}
}

func (p *parser) inParentheses() api.Expr {
	p.must("(")
	e := p.expr()
	p.must(")")
	return e
}

func (p *parser) merge() api.Expr {
	pos := p.take().Pos
	p.must("(")
	name := p.name()
	p.must(",")
	on := p.expr()
	p.must(",")
	off := p.expr()
	p.must(")")
	return api.Expr{Op: api.Merge, Pos: pos, Name: name, L: []api.Expr{on, off}}
}
