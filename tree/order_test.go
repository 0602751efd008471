package tree_test

import (
	"errors"
	"math"
	"testing"

	"pendulum/api"
	"pendulum/tree"
)

// fault is a change of the sample, with the error that it brings about.
type fault struct {
	do  func(n *api.Node)
	err error
	pos int
}

// faults are in the order of the chapter: of two in one node, the earlier one is told.
func faults() []fault {
	list := []fault{
		{func(n *api.Node) { n.Name = "F" }, api.ErrName, alone},
		{func(n *api.Node) { n.Local = append(n.Local, make([]api.Decl, api.MaxVars)...) }, api.ErrMany, alone},
		{func(n *api.Node) { n.Eqs = nil }, api.ErrMany, alone},
		{func(n *api.Node) { n.Out = nil }, api.ErrMany, alone},
		{func(n *api.Node) { n.Eqs = append(n.Eqs, countOf(0, 0, api.MaxExprs).Eqs...) }, api.ErrMany, alone},
		{func(n *api.Node) { n.Eqs[2].Expr.L = []api.Expr{chain(api.MaxNest)} }, api.ErrDeep, alone},
		{func(n *api.Node) { n.Eqs[3].Args = []api.Expr{chain(api.MaxNest + 1)} }, api.ErrDeep, alone},
		{func(n *api.Node) { n.Eqs[3].Expr = api.Expr{L: []api.Expr{chain(api.MaxNest)}} }, api.ErrDeep, alone},
	}
	variable := func(pos int, d func(n *api.Node) *api.Decl, clocks bool) {
		list = append(list, fault{func(n *api.Node) { d(n).Name = "1" }, api.ErrName, pos})
		list = append(list, fault{func(n *api.Node) { d(n).Type = 3 }, api.ErrShape, pos})
		if !clocks {
			list = append(list, fault{func(n *api.Node) { d(n).Clocks = []api.Clock{{Name: ""}} }, api.ErrShape, pos})
			return
		}
		list = append(list, fault{func(n *api.Node) { d(n).Clocks = append(d(n).Clocks, make([]api.Clock, 5)...) }, api.ErrShape, pos})
		list = append(list, fault{func(n *api.Node) { d(n).Clocks[1].Name = "if" }, api.ErrName, pos})
	}
	variable(11, func(n *api.Node) *api.Decl { return &n.In[0] }, false)
	variable(7, func(n *api.Node) *api.Decl { return &n.In[1] }, false)
	variable(3, func(n *api.Node) *api.Decl { return &n.Out[0] }, false)
	variable(-4, func(n *api.Node) *api.Decl { return &n.Out[1] }, false)
	variable(12, func(n *api.Node) *api.Decl { return &n.Local[0] }, true)
	variable(13, func(n *api.Node) *api.Decl { return &n.Local[1] }, true)
	return append(list, faultsOfEquations()...)
}

func faultsOfEquations() []fault {
	return []fault{
		{func(n *api.Node) { n.Eqs[0].Left = nil }, api.ErrShape, 5},
		{func(n *api.Node) { n.Eqs[0].Every = "x y" }, api.ErrName, 5},
		{func(n *api.Node) { n.Eqs[0].Args = make([]api.Expr, 2) }, api.ErrShape, 5},
		{func(n *api.Node) { n.Eqs[0].Expr.N = 1 }, api.ErrShape, 20},
		{func(n *api.Node) { n.Eqs[0].Expr.L[0].N = -1 }, api.ErrShape, 19},
		{func(n *api.Node) { n.Eqs[0].Expr.L[1].Name = "a" }, api.ErrShape, 22},
		{func(n *api.Node) { n.Eqs[0].Expr.L[1].L[0].N = 1 }, api.ErrShape, 21},
		{func(n *api.Node) { n.Eqs[0].Expr.L[1].L[0].Name = "A" }, api.ErrName, 21},
		{func(n *api.Node) { n.Eqs[0].Expr.L[1].L[1].Op = 26 }, api.ErrShape, 23},
		{func(n *api.Node) { n.Eqs[0].Expr.L[1].L[1].L[0].Name = "" }, api.ErrName, 24},
		{func(n *api.Node) { n.Eqs[1].Left = nil }, api.ErrShape, 2},
		{func(n *api.Node) { n.Eqs[1].Node = "let" }, api.ErrName, 2},
		{func(n *api.Node) { n.Eqs[1].Expr.Op = 3 }, api.ErrShape, 2},
		{func(n *api.Node) { n.Eqs[1].Args[0].N = 2 }, api.ErrShape, 31},
		{func(n *api.Node) { n.Eqs[1].Args[0].Name = "C" }, api.ErrName, 31},
		{func(n *api.Node) { n.Eqs[1].Args[0].L[0].Op = 0 }, api.ErrShape, 30},
		{func(n *api.Node) { n.Eqs[1].Args[1].Name = "tel" }, api.ErrName, -32},
		{func(n *api.Node) { n.Eqs[1].Args[1].L[0].N = 2 }, api.ErrShape, 33},
		{func(n *api.Node) { n.Eqs[1].Args[1].L[1].L = make([]api.Expr, 1) }, api.ErrShape, 34},
		{func(n *api.Node) { n.Eqs[2].Left[0] = "_" }, api.ErrName, -9},
		{func(n *api.Node) { n.Eqs[2].Every = "c" }, api.ErrShape, -9},
		{func(n *api.Node) { n.Eqs[2].Expr.L[0].Op = -3 }, api.ErrShape, -9},
		{func(n *api.Node) { n.Eqs[3].Every = "9" }, api.ErrName, 5},
		{func(n *api.Node) { n.Eqs[3].Expr.Op = 1 }, api.ErrShape, 5},
	}
}

func TestEachFaultAlone(t *testing.T) {
	for i, f := range faults() {
		checkValid(t, i, with(f.do), f.err, f.pos)
	}
}

// The later fault is made first, since an earlier one may take away its place.
func TestTheFirstOfTwoFaults(t *testing.T) {
	list := faults()
	for i, early := range list {
		for j, late := range list[i+1:] {
			n := sample()
			late.do(&n)
			early.do(&n)
			checkValid(t, []int{i, i + 1 + j}, n, early.err, early.pos)
		}
	}
}

func TestTheFirstOfManyFaults(t *testing.T) {
	n := sample()
	list := faults()
	for i := len(list) - 1; i >= 0; i-- {
		if list[i].err != api.ErrMany { // without equations there is no place for the others
			list[i].do(&n)
		}
		if list[i].pos != alone {
			checkValid(t, i, n, list[i].err, list[i].pos)
		}
	}
	checkValid(t, "all", n, api.ErrName, alone)
}

func TestPositionsMayBeAnyNumbers(t *testing.T) {
	for _, pos := range []int{0, -1, 1, 5, math.MaxInt, math.MinInt, 1 << 40} {
		everywhere := func(n *api.Node) {
			for _, l := range leaves(n) {
				if isPos(l) {
					l.value.SetInt(int64(pos))
				}
			}
		}
		good(t, pos, with(everywhere))
		for i, f := range faults() {
			want := pos
			if f.pos == alone {
				want = alone
			}
			checkValid(t, []int{pos, i}, with(func(n *api.Node) { f.do(n); everywhere(n) }), f.err, want)
		}
	}
}

// What a caller does with an error must not be seen in the next one.
func TestErrorsAreNotShared(t *testing.T) {
	for i, f := range faults() {
		n := with(f.do)
		first, second := tree.Valid(n), tree.Valid(n)
		if !errors.Is(first, f.err) || !errors.Is(second, f.err) {
			t.Fatal(i, first, second)
		}
		if at, ok := first.(*api.At); ok {
			at.Pos, at.Err = 99, api.ErrFace
			checkValid(t, i, n, f.err, f.pos)
			if again := second.(*api.At); again.Pos != f.pos || again.Err != f.err {
				t.Error(i, again)
			}
		}
	}
}
