package show

import (
	"strconv"

	"pendulum/api"
)

// before has, for each Op, the texts that stand before its operands.
var before = [...][3]string{
	api.Neg:   {"-"},
	api.Not:   {"not "},
	api.Add:   {"", " + "},
	api.Sub:   {"", " - "},
	api.Mul:   {"", " * "},
	api.Div:   {"", " / "},
	api.Mod:   {"", " mod "},
	api.And:   {"", " and "},
	api.Or:    {"", " or "},
	api.Xor:   {"", " xor "},
	api.Eq:    {"", " = "},
	api.Ne:    {"", " <> "},
	api.Lt:    {"", " < "},
	api.Le:    {"", " <= "},
	api.Gt:    {"", " > "},
	api.Ge:    {"", " >= "},
	api.If:    {"if ", " then ", " else "},
	api.Fby:   {"", " fby "},
	api.Arrow: {"", " -> "},
	api.Pre:   {"pre "},
	api.When:  {""},
	api.Merge: {", ", ", "},
}

func (p *printer) expr(e api.Expr) {
	switch e.Op {
	case api.Int:
		p.put(strconv.FormatInt(e.N, 10))
	case api.Bool:
		p.put(strconv.FormatBool(e.N == 1))
	case api.Var:
		p.put(e.Name)
	case api.When:
		p.operands(e)
		p.clock(e.Name, e.N == 1)
	case api.Merge:
		p.put("merge(", e.Name)
		p.operands(e)
		p.put(")")
	default:
		p.operands(e)
	}
}

// operands prints the operands of e, each behind its text. A valid part has a known Op and at most three operands; anything else is left out.
func (p *printer) operands(e api.Expr) {
	if e.Op < 0 || e.Op >= len(before) {
		return
	}
	texts := before[e.Op]
	for i, x := range e.L[:min(len(e.L), len(texts))] {
		p.put(texts[i])
		if e.Op == api.Merge || standsAlone(x.Op) {
			p.expr(x)
		} else {
			p.put("(")
			p.expr(x)
			p.put(")")
		}
	}
}

// standsAlone reports whether a part with that Op needs no parentheses where it is an operand.
func standsAlone(op int) bool {
	return op == api.Int || op == api.Bool || op == api.Var || op == api.Merge
}
