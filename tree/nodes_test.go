package tree_test

import (
	"math"
	"math/rand"
	"slices"
	"strings"

	"pendulum/api"
)

func variable(name string) api.Expr { return api.Expr{Op: api.Var, Name: name} }

func number(n int64) api.Expr { return api.Expr{Op: api.Int, N: n} }

func of(op int, l ...api.Expr) api.Expr { return api.Expr{Op: op, L: l} }

func named(op int, name string, l ...api.Expr) api.Expr {
	return api.Expr{Op: op, Name: name, L: l}
}

// chain has that Depth, and as many parts.
func chain(depth int) api.Expr {
	e := variable("a")
	for range depth - 1 {
		e = of(api.Neg, e)
	}
	return e
}

// part is a good part with that Op, all of whose operands are variables.
func part(op int) api.Expr {
	e := api.Expr{Op: op, L: slices.Repeat([]api.Expr{variable("a")}, arity(op))}
	if hasName(op) {
		e.Name = "c"
	}
	return e
}

// arity is the number of operands that each Op from 1 to 25 requires, as the remarks in package api tell.
func arity(op int) int {
	return int("0001122222222222222322112"[op-1] - '0')
}

func hasName(op int) bool { return slices.Contains([]int{3, 24, 25}, op) }

// goodN tells which N a part may have, for each Op from 1 to 25.
func goodN(op int, n int64) bool {
	switch op {
	case 1:
		return n >= 0
	case 2, 24:
		return n == 0 || n == 1
	}
	return n == 0
}

func longest() string { return strings.Repeat("n", api.MaxName) }

func goodNames() []string {
	return []string{"a", "z", "λ", "x1", "y_", "ω_9", "nodes", longest()}
}

func badNames() []string {
	return []string{"if", "node", "xor", "A", "_", "_a", "1", "1a", " ", "a ", "a b", "a-b", "€", "a\x00", "\xff", "\ufffd", longest() + "n", strings.Repeat("λ", 13)}
}

func numbers() []int64 {
	return []int64{0, 1, 2, 3, -1, -2, 25, 26, math.MaxInt64, math.MinInt64, 1 << 32, 1<<32 + 1, -1 << 32}
}

// sample is a valid node with lists of all kinds; its positions are in no order, and some are equal or negative.
func sample() api.Node {
	onC := api.Clock{Name: "c", On: true}
	offD := api.Clock{Name: "d"}
	when := api.Expr{Op: api.When, Pos: 31, N: 1, Name: "c", L: []api.Expr{{Op: api.Var, Pos: 30, Name: "a"}}}
	merge := api.Expr{Op: api.Merge, Pos: -32, Name: "d", L: []api.Expr{{Op: api.Bool, Pos: 33, N: 1}, {Op: api.Int, Pos: 34, N: 7}}}
	sum := api.Expr{Op: api.Add, Pos: 22, L: []api.Expr{{Op: api.Var, Pos: 21, Name: "x"}, {Op: api.Pre, Pos: 23, L: []api.Expr{{Op: api.Var, Pos: 24, Name: "b"}}}}}
	return api.Node{
		Name:  "f",
		In:    []api.Decl{{Pos: 11, Name: "a", Type: api.TInt}, {Pos: 7, Name: "c", Type: api.TBool}},
		Out:   []api.Decl{{Pos: 3, Name: "x", Type: api.TInt}, {Pos: -4, Name: "y", Type: api.TBool}},
		Local: []api.Decl{{Pos: 12, Name: "z", Type: api.TInt, Clocks: []api.Clock{onC, offD}}, {Pos: 13, Name: "w", Type: api.TBool, Clocks: []api.Clock{offD, offD, onC, onC}}, {Pos: 3, Name: "v", Type: api.TInt}},
		Eqs: []api.Equation{
			{Pos: 5, Left: []string{"x"}, Expr: api.Expr{Op: api.Fby, Pos: 20, L: []api.Expr{{Op: api.Int, Pos: 19}, sum}}},
			{Pos: 2, Left: []string{"y", "z"}, Node: "g", Args: []api.Expr{when, merge}, Every: "d"},
			{Pos: -9, Left: []string{"w"}, Expr: api.Expr{Op: api.Not, Pos: -9, L: []api.Expr{{Op: api.Var, Pos: -9, Name: "c"}}}},
			{Pos: 5, Left: []string{"v"}, Node: "h"},
		},
	}
}

// with is the sample after a change.
func with(change func(n *api.Node)) api.Node {
	n := sample()
	change(&n)
	return n
}

// chooser chooses one of 0 to n - 1.
type chooser func(n int) int

func byChance(seed int64) chooser {
	return rand.New(rand.NewSource(seed)).Intn
}

// byBytes chooses by one byte after the other, and behind them the least.
func byBytes(b []byte) chooser {
	return func(n int) int {
		if len(b) == 0 {
			return 0
		}
		choice := int(b[0]) % n
		b = b[1:]
		return choice
	}
}

func one[T any](choose chooser, list []T) T { return list[choose(len(list))] }

func several[T any](choose chooser, most int, item func() T) []T {
	var list []T
	for range choose(most + 1) {
		list = append(list, item())
	}
	return list
}

// expr is a good part, whose operands are good down to a depth.
func (choose chooser) expr(depth int) api.Expr {
	op := 1 + choose(25)
	if depth == 1 {
		op = 1 + choose(3)
	}
	e := api.Expr{Op: op, Pos: choose(40) - 5}
	e.N = one(choose, slices.DeleteFunc(numbers(), func(n int64) bool { return !goodN(op, n) }))
	if hasName(op) {
		e.Name = one(choose, goodNames())
	}
	for range arity(op) {
		e.L = append(e.L, choose.expr(depth-1))
	}
	return e
}

func (choose chooser) decl(clocks int) api.Decl {
	return api.Decl{Pos: choose(40) - 5, Name: one(choose, goodNames()), Type: 1 + choose(2), Clocks: several(choose, clocks, func() api.Clock {
		return api.Clock{Name: one(choose, goodNames()), On: choose(2) == 1}
	})}
}

func (choose chooser) equation() api.Equation {
	name := func() string { return one(choose, goodNames()) }
	q := api.Equation{Pos: choose(40) - 5, Left: []string{name()}}
	if choose(2) == 0 {
		q.Expr = choose.expr(1 + choose(4))
		return q
	}
	q.Left = append(q.Left, several(choose, 2, name)...)
	q.Node = name()
	q.Args = several(choose, 3, func() api.Expr { return choose.expr(1 + choose(3)) })
	if choose(2) == 0 {
		q.Every = name()
	}
	return q
}

// node is a valid one, but for its size.
func (choose chooser) node() api.Node {
	port := func() api.Decl { return choose.decl(0) }
	return api.Node{
		Name: one(choose, goodNames()), In: several(choose, 3, port), Out: append(several(choose, 2, port), port()),
		Local: several(choose, 3, func() api.Decl { return choose.decl(4) }),
		Eqs:   append(several(choose, 3, choose.equation), choose.equation()),
	}
}
