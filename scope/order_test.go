package scope_test

import (
	"math"
	"testing"

	"pendulum/api"
	"pendulum/scope"
)

// sample is a node without error, whose positions are in no order, some of them equal or negative.
func sample() api.Node {
	onC, offD := api.Clock{Name: "c", On: true}, api.Clock{Name: "d"}
	at := func(pos, op int, name string, l ...api.Expr) api.Expr {
		return api.Expr{Op: op, Pos: pos, Name: name, L: l}
	}
	v := func(pos int, name string) api.Expr { return at(pos, api.Var, name) }
	return api.Node{
		Name: "f",
		In:   []api.Decl{{Pos: 11, Name: "a", Type: api.TInt}, {Pos: 7, Name: "c", Type: api.TBool}, {Pos: 30, Name: "d", Type: api.TBool}},
		Out:  []api.Decl{{Pos: 3, Name: "x", Type: api.TInt}, {Pos: -4, Name: "y", Type: api.TBool}},
		Local: []api.Decl{
			{Pos: 12, Name: "z", Type: api.TInt, Clocks: []api.Clock{onC, offD}},
			{Pos: -12, Name: "w", Type: api.TBool, Clocks: []api.Clock{offD, offD, onC, onC}},
			{Pos: 3, Name: "v", Type: api.TInt}, {Pos: 2, Name: "u", Type: api.TInt},
		},
		Eqs: []api.Equation{
			{Pos: 5, Left: []string{"x"}, Expr: at(20, api.Fby, "", at(19, api.Int, ""), at(22, api.Add, "", v(21, "x"), at(23, api.Pre, "", v(24, "a"))))},
			{Pos: 2, Left: []string{"y", "z"}, Node: "g", Args: []api.Expr{at(31, api.When, "c", v(30, "a")), at(-32, api.Merge, "d", v(33, "x"), at(34, api.Neg, "", v(34, "y")))}, Every: "d"},
			{Pos: -9, Left: []string{"w"}, Expr: at(-9, api.Not, "", at(-10, api.When, "w", v(-9, "c")))},
			{Pos: 5, Left: []string{"v"}, Node: "h"},
			{Pos: 4, Left: []string{"u"}, Node: "h"},
		},
	}
}

// fault is a change of the sample, with the error that it brings about.
type fault struct {
	do  func(n *api.Node)
	err error
	pos int
}

// faults are in the order of the chapter: of two in one node, the earlier one is told.
func faults() []fault {
	return append(append(append(faultsOfTree(), faultsOfVariables()...), faultsOfEquations()...), faultsOfDefinitions()...)
}

func faultsOfTree() []fault {
	return []fault{
		{func(n *api.Node) { n.Name = "if" }, api.ErrName, alone},
		{func(n *api.Node) { n.Local = append(n.Local, make([]api.Decl, api.MaxVars)...) }, api.ErrMany, alone},
		{func(n *api.Node) { n.Eqs[3].Args = []api.Expr{deep(api.MaxNest + 1)} }, api.ErrDeep, alone},
		{func(n *api.Node) { n.In[2].Type = 0 }, api.ErrShape, 30},
		{func(n *api.Node) { n.Local[2].Type = 3 }, api.ErrShape, 3},
		{func(n *api.Node) { n.Eqs[2].Expr.N = 1 }, api.ErrShape, -9},
		{func(n *api.Node) { n.Eqs[3].Every = "A" }, api.ErrName, 5},
	}
}

func faultsOfVariables() []fault {
	return []fault{
		{func(n *api.Node) { n.In[1].Name = "a" }, api.ErrTwice, 7},
		{func(n *api.Node) { n.In[2].Name = "a" }, api.ErrTwice, 30},
		{func(n *api.Node) { n.Out[0].Name = "a" }, api.ErrTwice, 3},
		{func(n *api.Node) { n.Out[1].Name = "a" }, api.ErrTwice, -4},
		{func(n *api.Node) { n.Local[0].Name = "a" }, api.ErrTwice, 12},
		{func(n *api.Node) { n.Local[1].Name = "a" }, api.ErrTwice, -12},
		{func(n *api.Node) { n.Local[2].Name = "a" }, api.ErrTwice, 3},
		{func(n *api.Node) { n.Local[0].Clocks[0].Name = "q" }, api.ErrName, 12},
		{func(n *api.Node) { n.Local[0].Clocks[1].Name = "f" }, api.ErrName, 12},
		{func(n *api.Node) { n.Local[1].Clocks[0].Name = "q" }, api.ErrName, -12},
		{func(n *api.Node) { n.Local[1].Clocks[2].Name = "g" }, api.ErrName, -12},
		{func(n *api.Node) { n.Local[1].Clocks[3].Name = "q" }, api.ErrName, -12},
		{func(n *api.Node) { n.Local[2].Clocks = []api.Clock{{Name: "q"}} }, api.ErrName, 3},
	}
}

func faultsOfEquations() []fault {
	return []fault{
		{func(n *api.Node) { n.Eqs[0].Left[0] = "q" }, api.ErrName, 5},
		{func(n *api.Node) { n.Eqs[0].Left[0] = "d" }, api.ErrName, 5},
		{func(n *api.Node) { n.Eqs[0].Expr.L[1].L[0].Name = "q" }, api.ErrName, 21},
		{func(n *api.Node) { n.Eqs[0].Expr.L[1].L[1].L[0].Name = "q" }, api.ErrName, 24},
		{func(n *api.Node) { n.Eqs[1].Left[0] = "q" }, api.ErrName, 2},
		{func(n *api.Node) { n.Eqs[1].Left[0] = "a" }, api.ErrName, 2},
		{func(n *api.Node) { n.Eqs[1].Left[0] = "x" }, api.ErrTwice, 2},
		{func(n *api.Node) { n.Eqs[1].Left[1] = "c" }, api.ErrName, 2},
		{func(n *api.Node) { n.Eqs[1].Left[1] = "g" }, api.ErrName, 2},
		{func(n *api.Node) { n.Eqs[1].Left[1] = "x" }, api.ErrTwice, 2},
		{func(n *api.Node) { n.Eqs[1].Left[1] = "y" }, api.ErrTwice, 2},
		{func(n *api.Node) { n.Eqs[1].Every = "q" }, api.ErrName, 2},
		{func(n *api.Node) { n.Eqs[1].Args[0].Name = "q" }, api.ErrName, 31},
		{func(n *api.Node) { n.Eqs[1].Args[0].L[0].Name = "q" }, api.ErrName, 30},
		{func(n *api.Node) { n.Eqs[1].Args[1].Name = "q" }, api.ErrName, -32},
		{func(n *api.Node) { n.Eqs[1].Args[1].L[0].Name = "q" }, api.ErrName, 33},
		{func(n *api.Node) { n.Eqs[1].Args[1].L[1].L[0].Name = "q" }, api.ErrName, 34},
		{func(n *api.Node) { n.Eqs[2].Left[0] = "q" }, api.ErrName, -9},
		{func(n *api.Node) { n.Eqs[2].Left[0] = "z" }, api.ErrTwice, -9},
		{func(n *api.Node) { n.Eqs[2].Expr.L[0].Name = "q" }, api.ErrName, -10},
		{func(n *api.Node) { n.Eqs[2].Expr.L[0].L[0].Name = "q" }, api.ErrName, -9},
		{func(n *api.Node) { n.Eqs[3].Left[0] = "w" }, api.ErrTwice, 5},
		{func(n *api.Node) { n.Eqs[3].Every = "h" }, api.ErrName, 5},
	}
}

func faultsOfDefinitions() []fault {
	return []fault{
		{func(n *api.Node) { n.Out = append(n.Out, api.Decl{Pos: 50, Name: "o", Type: api.TInt}) }, api.ErrNone, 50},
		{func(n *api.Node) { n.Eqs = n.Eqs[:4] }, api.ErrNone, 2},
		{func(n *api.Node) { n.Local = append(n.Local, api.Decl{Pos: 1, Name: "l", Type: api.TInt}) }, api.ErrNone, 1},
	}
}

// with is the sample after a change.
func with(change func(n *api.Node)) api.Node {
	n := sample()
	change(&n)
	return n
}

func TestEachFaultAlone(t *testing.T) {
	checkError(t, "the sample", sample(), nil, 0)
	for i, f := range faults() {
		checkError(t, i, with(f.do), f.err, f.pos)
	}
}

// TestTheFirstOfTwoFaults: the later fault is made first, since an earlier one may take away its place.
func TestTheFirstOfTwoFaults(t *testing.T) {
	list := faults()
	for i, early := range list {
		for j, late := range list[i+1:] {
			n := sample()
			late.do(&n)
			early.do(&n)
			checkError(t, []int{i, i + 1 + j}, n, early.err, early.pos)
		}
	}
}

func TestTheFirstOfManyFaults(t *testing.T) {
	n := sample()
	list := faults()
	for i := len(list) - 1; i >= 0; i-- {
		if list[i].err != api.ErrMany { // such variables are wrong in another way, too
			list[i].do(&n)
			checkError(t, i, n, list[i].err, list[i].pos)
		}
	}
}

func TestPositionsMayBeAnyNumbers(t *testing.T) {
	for _, pos := range []int{0, -1, 1, 5, math.MaxInt, math.MinInt, 1 << 41} {
		for i, f := range faults() {
			want := pos
			if f.pos == alone {
				want = alone
			}
			n := with(f.do)
			placeAll(&n, pos)
			checkError(t, []int{pos, i}, n, f.err, want)
		}
	}
}

// placeAll gives everything in a node the same position.
func placeAll(n *api.Node, pos int) {
	for _, l := range [][]api.Decl{n.In, n.Out, n.Local} {
		for i := range l {
			l[i].Pos = pos
		}
	}
	for i := range n.Eqs {
		q := &n.Eqs[i]
		q.Pos = pos
		placeExpr(&q.Expr, pos)
		for j := range q.Args {
			placeExpr(&q.Args[j], pos)
		}
	}
}

func placeExpr(e *api.Expr, pos int) {
	e.Pos = pos
	for i := range e.L {
		placeExpr(&e.L[i], pos)
	}
}

// TestErrorsAreNotShared: what a caller does with an error is not seen in the next one.
func TestErrorsAreNotShared(t *testing.T) {
	for i, f := range faults() {
		n := with(f.do)
		first, second := scope.Check(n), scope.Check(n)
		if at, ok := first.(*api.At); ok {
			at.Pos, at.Err = 99, api.ErrFace
			if !isError(second, f.err, f.pos) {
				t.Errorf("%d: %v", i, second)
			}
		}
		checkError(t, i, n, f.err, f.pos)
	}
}
