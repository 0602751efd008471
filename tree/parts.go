package tree

import (
	"iter"
	"slices"

	"pendulum/api"
)

// Parts iterates over all parts of the expressions of l, each before its operands.
func Parts(l ...api.Expr) iter.Seq[api.Expr] {
	// The iterator outlives this call, but l is only lent to the call.
	own := cloneExprs(l)
	return func(yield func(api.Expr) bool) {
		for e := range inPlace(own) {
			// The loop may write to what it gets, and neither the parts to come nor a later loop may show it.
			if !yield(cloneExpr(e)) {
				return
			}
		}
	}
}

// inPlace iterates over the parts that Parts iterates over, with the lists that they have in l.
func inPlace(l []api.Expr) iter.Seq[api.Expr] {
	return func(yield func(api.Expr) bool) {
		walk(l, yield)
	}
}

// walk yields the parts of the expressions of l, and reports whether yield has asked for more up to the last.
func walk(l []api.Expr, yield func(api.Expr) bool) bool {
	for _, e := range l {
		if !yield(e) || !walk(e.L, yield) {
			return false
		}
	}
	return true
}

// Count returns the number of parts of all Exprs (of equations without Node) and of all Args.
func Count(n api.Node) int {
	count := 0
	for range counted(n) {
		count++
	}
	return count
}

// counted iterates over the parts that Count counts, with the lists that they have in n.
func counted(n api.Node) iter.Seq[api.Expr] {
	return func(yield func(api.Expr) bool) {
		for _, q := range n.Eqs {
			if !walk(expressions(q), yield) {
				return
			}
		}
	}
}

// expressions are the Args of q and, if it has no Node, its Expr.
func expressions(q api.Equation) []api.Expr {
	if q.Node != "" {
		return q.Args
	}
	return append([]api.Expr{q.Expr}, q.Args...)
}

// Depth returns 1 plus the greatest Depth of the operands of e.
func Depth(e api.Expr) int {
	deepest := 0
	for _, x := range e.L {
		deepest = max(deepest, Depth(x))
	}
	return 1 + deepest
}

// Uses returns the names of the parts Var, When and Merge of e, in ascending order, each once: if late is false, without the parts that stand late.
func Uses(e api.Expr, late bool) []string {
	names := addUses(nil, e, late)
	slices.Sort(names)
	return slices.Compact(names)
}

func addUses(names []string, e api.Expr, late bool) []string {
	if hasName(e.Op) {
		names = append(names, e.Name)
	}
	for i, x := range e.L {
		if late || !standsLate(e.Op, i) {
			names = addUses(names, x, late)
		}
	}
	return names
}

// hasName reports whether the parts with that Op have a Name.
func hasName(op int) bool {
	return op == api.Var || op == api.When || op == api.Merge
}

// standsLate reports whether operand i of a part with that Op is its value of an instant before.
func standsLate(op, i int) bool {
	return op == api.Pre || op == api.Fby && i == 1
}
