package tree

import (
	"slices"

	"pendulum/api"
	"pendulum/text"
)

// maxClocks is the greatest number of clocks of a local.
const maxClocks = 4

// Valid returns the first error of n.
func Valid(n api.Node) error {
	switch {
	case badName(n.Name):
		return api.ErrName
	case tooMany(n):
		return api.ErrMany
	case tooDeep(n):
		return api.ErrDeep
	}
	for i, d := range variables(n) {
		local := i >= len(n.In)+len(n.Out)
		if err := declError(d, local); err != nil {
			return &api.At{Pos: d.Pos, Err: err}
		}
	}
	for _, q := range n.Eqs {
		if err := equationError(q); err != nil {
			return &api.At{Pos: q.Pos, Err: err}
		}
		for e := range inPlace(expressions(q)) {
			if err := partError(e); err != nil {
				return &api.At{Pos: e.Pos, Err: err}
			}
		}
	}
	return nil
}

// tooMany counts no further than it has to, since n may be of any size.
func tooMany(n api.Node) bool {
	if len(n.In)+len(n.Out)+len(n.Local) > api.MaxVars || len(n.Out) == 0 || len(n.Eqs) == 0 {
		return true
	}
	count := 0
	for range counted(n) {
		count++
		if count > api.MaxExprs {
			return true
		}
	}
	return false
}

func tooDeep(n api.Node) bool {
	return slices.ContainsFunc(n.Eqs, func(q api.Equation) bool {
		return deeper(q.Expr, api.MaxNest) || slices.ContainsFunc(q.Args, func(e api.Expr) bool {
			return deeper(e, api.MaxNest)
		})
	})
}

// deeper reports whether the Depth of e is greater than most; it goes no deeper than that, since an Expr beside a Node may be of any size.
func deeper(e api.Expr, most int) bool {
	return most == 0 || slices.ContainsFunc(e.L, func(x api.Expr) bool {
		return deeper(x, most-1)
	})
}

// declError is the error of a variable, without its position.
func declError(d api.Decl, local bool) error {
	switch {
	case badName(d.Name):
		return api.ErrName
	case d.Type != api.TInt && d.Type != api.TBool:
		return api.ErrShape
	case !local && len(d.Clocks) > 0, len(d.Clocks) > maxClocks:
		return api.ErrShape
	case slices.ContainsFunc(d.Clocks, badClock):
		return api.ErrName
	}
	return nil
}

// equationError is the error of an equation, without its position and without those of its parts.
func equationError(q api.Equation) error {
	switch {
	case len(q.Left) == 0:
		return api.ErrShape
	case slices.ContainsFunc(q.Left, badName), q.Node != "" && badName(q.Node), q.Every != "" && badName(q.Every):
		return api.ErrName
	case q.Node == "" && (q.Every != "" || len(q.Args) > 0 || len(q.Left) > 1):
		return api.ErrShape
	case q.Node != "" && q.Expr.Op != 0:
		return api.ErrShape
	}
	return nil
}

func badClock(c api.Clock) bool {
	return badName(c.Name)
}

func badName(s string) bool {
	return !text.Name(s)
}

// partError is the error of a part, without its position and without those of its operands.
func partError(e api.Expr) error {
	switch {
	case len(e.L) != operands(e.Op) || !validN(e) || e.Name != "" && !hasName(e.Op):
		return api.ErrShape
	case hasName(e.Op) && badName(e.Name):
		return api.ErrName
	}
	return nil
}

// noOp is a number of operands that no part has.
const noOp = -1

// operands returns the number of operands that an Op requires.
func operands(op int) int {
	switch op {
	case api.Int, api.Bool, api.Var:
		return 0
	case api.Neg, api.Not, api.Pre, api.When:
		return 1
	case api.Add, api.Sub, api.Mul, api.Div, api.Mod, api.And, api.Or, api.Xor,
		api.Eq, api.Ne, api.Lt, api.Le, api.Gt, api.Ge, api.Fby, api.Arrow, api.Merge:
		return 2
	case api.If:
		return 3
	}
	return noOp
}

// validN reports whether a part may have its N.
func validN(e api.Expr) bool {
	switch e.Op {
	case api.Int:
		return e.N >= 0
	case api.Bool, api.When:
		return e.N == 0 || e.N == 1
	}
	return e.N == 0
}
