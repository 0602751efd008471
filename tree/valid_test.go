package tree_test

import (
	"math"
	"slices"
	"testing"

	"pendulum/api"
	"pendulum/tree"
)

// alone stands for the position of an error that has none.
const alone = math.MinInt + 77

func checkValid(t *testing.T, what any, n api.Node, want error, pos int) {
	t.Helper()
	before := whole(n)
	err := tree.Valid(n)
	good := err == want
	if want != nil && pos != alone {
		at, ok := err.(*api.At)
		good = ok && *at == api.At{Pos: pos, Err: want}
	}
	if !good {
		t.Errorf("%v: Valid = %v, want %v at %d", what, err, want, pos)
	}
	if !equal(before, whole(n)) {
		t.Errorf("%v: Valid changes the node", what)
	}
}

func good(t *testing.T, what any, n api.Node) {
	t.Helper()
	checkValid(t, what, n, nil, alone)
}

// ofExpr is a node with that Expr; of the positions, only those of its parts are not 0.
func ofExpr(e api.Expr) api.Node {
	return api.Node{Name: "f", Out: []api.Decl{{Name: "x", Type: 1}}, Eqs: []api.Equation{{Left: []string{"x"}, Expr: e}}}
}

func ofArgs(l ...api.Expr) api.Node {
	return api.Node{Name: "f", Out: []api.Decl{{Name: "x", Type: 1}}, Eqs: []api.Equation{{Left: []string{"x"}, Node: "g", Args: l}}}
}

func TestValidNodes(t *testing.T) {
	good(t, "the sample", sample())
	good(t, "the least", ofExpr(number(0)))
	good(t, "a node of nothing", ofArgs())
	good(t, "names that nothing declares, and the same ones twice", with(func(n *api.Node) {
		n.Out = append(n.Out, n.Out...)
		n.Eqs = append(n.Eqs, n.Eqs...)
		n.Eqs[0].Left[0], n.Eqs[1].Node = "q", "f"
	}))
	for _, e := range []api.Expr{{}, {Pos: 9}, {N: -7}, {Name: "IF"}, {N: 3, Name: "a", L: []api.Expr{{Op: 99, N: -1, Name: "node"}, {L: make([]api.Expr, 9)}}}, {L: []api.Expr{chain(api.MaxNest - 1)}}, {L: make([]api.Expr, 2*api.MaxExprs)}} {
		good(t, "an Expr without an Op beside a Node", with(func(n *api.Node) { n.Eqs[1].Expr = e }))
	}
}

func TestNodesWithEmptyLists(t *testing.T) {
	n := ofArgs(api.Expr{Op: api.Var, Name: "a", L: []api.Expr{}}, api.Expr{Op: api.Int})
	good(t, "nil lists", n)
	n.In, n.Local, n.Out[0].Clocks, n.Eqs[0].Expr.L = []api.Decl{}, []api.Decl{}, []api.Clock{}, []api.Expr{}
	good(t, "empty lists", n)
	n.Out = n.Out[:0]
	checkValid(t, "an empty Out", n, api.ErrMany, alone)
	m := ofExpr(number(1))
	m.Eqs[0].Args = []api.Expr{}
	good(t, "empty Args without a Node", m)
	m.Eqs[0].Left = []string{}
	checkValid(t, "an empty Left", m, api.ErrShape, 0)
	m.Eqs = m.Eqs[:0]
	checkValid(t, "empty Eqs", m, api.ErrMany, alone)
}

func TestZeroNode(t *testing.T) {
	checkValid(t, "the zero node", api.Node{}, api.ErrName, alone)
	checkValid(t, "a name alone", api.Node{Name: "f"}, api.ErrMany, alone)
	checkValid(t, "a zero output", api.Node{Name: "f", Out: make([]api.Decl, 1)}, api.ErrMany, alone)
	checkValid(t, "a zero equation", api.Node{Name: "f", Out: make([]api.Decl, 1), Eqs: make([]api.Equation, 1)}, api.ErrName, 0)
	checkValid(t, "a zero equation behind a good output", api.Node{Name: "f", Out: []api.Decl{{Pos: 6, Name: "x", Type: 1}}, Eqs: make([]api.Equation, 1)}, api.ErrShape, 0)
	checkValid(t, "a zero Expr", ofExpr(api.Expr{}), api.ErrShape, 0)
	checkValid(t, "a zero argument", ofArgs(api.Expr{}), api.ErrShape, 0)
}

// Each place of a name, with the error for one that is none.
func TestNames(t *testing.T) {
	for _, x := range []struct {
		place string
		set   func(n *api.Node, name string)
		pos   int
		empty bool // whether there may be none
	}{
		{"Name", func(n *api.Node, name string) { n.Name = name }, alone, false},
		{"In[0]", func(n *api.Node, name string) { n.In[0].Name = name }, 11, false},
		{"In[1]", func(n *api.Node, name string) { n.In[1].Name = name }, 7, false},
		{"Out[0]", func(n *api.Node, name string) { n.Out[0].Name = name }, 3, false},
		{"Out[1]", func(n *api.Node, name string) { n.Out[1].Name = name }, -4, false},
		{"Local[0]", func(n *api.Node, name string) { n.Local[0].Name = name }, 12, false},
		{"Local[2]", func(n *api.Node, name string) { n.Local[2].Name = name }, 3, false},
		{"Local[0].Clocks[0]", func(n *api.Node, name string) { n.Local[0].Clocks[0].Name = name }, 12, false},
		{"Local[0].Clocks[1]", func(n *api.Node, name string) { n.Local[0].Clocks[1].Name = name }, 12, false},
		{"Local[1].Clocks[3]", func(n *api.Node, name string) { n.Local[1].Clocks[3].Name = name }, 13, false},
		{"Eqs[0].Left[0]", func(n *api.Node, name string) { n.Eqs[0].Left[0] = name }, 5, false},
		{"Eqs[1].Left[0]", func(n *api.Node, name string) { n.Eqs[1].Left[0] = name }, 2, false},
		{"Eqs[1].Left[1]", func(n *api.Node, name string) { n.Eqs[1].Left[1] = name }, 2, false},
		{"Eqs[3].Left[0]", func(n *api.Node, name string) { n.Eqs[3].Left[0] = name }, 5, false},
		{"Eqs[3].Node", func(n *api.Node, name string) { n.Eqs[3].Node = name }, 5, false},
		{"Eqs[1].Every", func(n *api.Node, name string) { n.Eqs[1].Every = name }, 2, true},
		{"Eqs[3].Every", func(n *api.Node, name string) { n.Eqs[3].Every = name }, 5, true},
		{"a When", func(n *api.Node, name string) { n.Eqs[1].Args[0].Name = name }, 31, false},
		{"a Var", func(n *api.Node, name string) { n.Eqs[1].Args[0].L[0].Name = name }, 30, false},
		{"a Merge", func(n *api.Node, name string) { n.Eqs[1].Args[1].Name = name }, -32, false},
		{"a Var of an Expr", func(n *api.Node, name string) { n.Eqs[0].Expr.L[1].L[1].L[0].Name = name }, 24, false},
	} {
		for _, name := range goodNames() {
			good(t, x.place+" "+name, with(func(n *api.Node) { x.set(n, name) }))
		}
		for _, name := range badNames() {
			checkValid(t, x.place+" "+name, with(func(n *api.Node) { x.set(n, name) }), api.ErrName, x.pos)
		}
		none := with(func(n *api.Node) { x.set(n, "") })
		switch {
		case x.empty:
			good(t, "no "+x.place, none)
		case x.place == "Eqs[3].Node": // its Expr counts, which it has not
			checkValid(t, "no "+x.place, none, api.ErrShape, 0)
		default:
			checkValid(t, "no "+x.place, none, api.ErrName, x.pos)
		}
	}
}

func TestNumbersOfVariables(t *testing.T) {
	for in := 0; in <= api.MaxVars+1; in++ {
		for out := 0; in+out <= api.MaxVars+1; out++ {
			for _, all := range []int{in + out, api.MaxVars - 1, api.MaxVars, api.MaxVars + 1, api.MaxVars + 100} {
				if all < in+out {
					continue
				}
				n := ofExpr(number(1))
				list := slices.Repeat([]api.Decl{{Name: "x", Type: 2}}, all)
				n.In, n.Out, n.Local = list[:in], list[in:in+out], list[in+out:]
				if out > 0 && all <= api.MaxVars {
					good(t, []int{in, out, all}, n)
				} else {
					checkValid(t, []int{in, out, all}, n, api.ErrMany, alone)
				}
			}
		}
	}
}

// countOf has that many parts in an Expr, in an argument, and in the lone arguments behind it.
func countOf(inExpr, inArg, lone int) api.Node {
	n := ofExpr(of(api.Add))
	wide := func(parts int) api.Expr {
		e := number(1)
		for range (parts - 1) / 2 {
			e = of(api.Add, e, number(2))
		}
		if parts%2 == 0 {
			e = of(api.Neg, e)
		}
		return e
	}
	n.Eqs = nil
	for ; inExpr > 0; inExpr -= 40 {
		n.Eqs = append(n.Eqs, api.Equation{Left: []string{"x"}, Expr: wide(min(inExpr, 40))})
	}
	q := api.Equation{Left: []string{"x"}, Node: "g", Args: slices.Repeat([]api.Expr{variable("a")}, lone)}
	for ; inArg > 0; inArg -= 40 {
		q.Args = append(q.Args, wide(min(inArg, 40)))
	}
	n.Eqs = append(n.Eqs, q)
	return n
}

func TestNumbersOfParts(t *testing.T) {
	const most = api.MaxExprs
	for _, x := range [][3]int{{most, 0, 0}, {0, most, 0}, {0, 0, most}, {most - 1, 1, 0}, {1, most - 1, 0}, {1, 0, most - 1}, {most - 1, 0, 1}, {0, 1, most - 1}, {100, 100, most - 200}, {1, 1, 1}} {
		n := countOf(x[0], x[1], x[2])
		if got := tree.Count(n); got != x[0]+x[1]+x[2] {
			t.Fatal(x, got)
		}
		good(t, x, n)
		if tree.Count(n) != most {
			continue
		}
		for i := range x {
			more := x
			more[i]++
			checkValid(t, more, countOf(more[0], more[1], more[2]), api.ErrMany, alone)
			more[i] += 1000
			checkValid(t, more, countOf(more[0], more[1], more[2]), api.ErrMany, alone)
		}
		// Neither what stands beside a Node counts, nor an equation itself.
		last := len(n.Eqs) - 1
		n.Eqs[last].Expr.L = make([]api.Expr, 1000)
		n.Eqs = append(n.Eqs, slices.Repeat([]api.Equation{{Left: []string{"x"}, Node: "h"}}, 1000)...)
		good(t, x, n)
		n.Eqs = append(n.Eqs, api.Equation{})
		checkValid(t, x, n, api.ErrMany, alone)
		n.Eqs = n.Eqs[:len(n.Eqs)-1]
		n.Eqs[last].Node, n.Eqs[last].Expr.L = "", nil // its Args count still, and its Expr does as well
		checkValid(t, x, n, api.ErrMany, alone)
	}
}

func TestDepths(t *testing.T) {
	const most = api.MaxNest
	for depth := 1; depth <= most+60; depth++ {
		e := chain(depth)
		if tree.Depth(e) != depth {
			t.Fatal(depth, tree.Depth(e))
		}
		beside := ofArgs()
		beside.Eqs[0].Expr = api.Expr{L: e.L}
		second := with(func(n *api.Node) { n.Eqs[1].Args = append(n.Eqs[1].Args, e) })
		last := with(func(n *api.Node) { n.Eqs = append(n.Eqs, ofExpr(e).Eqs...) })
		for i, n := range []api.Node{ofExpr(e), ofArgs(e), ofArgs(variable("a"), e), beside, second, last} {
			if depth <= most {
				good(t, []int{i, depth}, n)
			} else {
				checkValid(t, []int{i, depth}, n, api.ErrDeep, alone)
			}
		}
	}
	for i := range 3 {
		for _, depth := range []int{most - 1, most} {
			e := part(api.If)
			e.L[i] = chain(depth)
			beside := with(func(n *api.Node) { n.Eqs[3].Expr = api.Expr{L: []api.Expr{{}, e.L[i]}} })
			for _, n := range []api.Node{ofExpr(e), ofArgs(e), beside} {
				if depth < most {
					good(t, []int{i, depth}, n)
				} else {
					checkValid(t, []int{i, depth}, n, api.ErrDeep, alone)
				}
			}
		}
	}
}

// An expression may have a list several times over, so that it has more parts than can be gone through.
func TestHugeExpressions(t *testing.T) {
	huge := variable("a")
	for range 200 {
		huge = of(api.Add, huge, huge)
	}
	beside := ofArgs()
	beside.Eqs[0].Expr = huge
	for i, x := range []struct {
		n    api.Node
		want error
	}{{ofExpr(huge), api.ErrMany}, {ofArgs(huge), api.ErrMany}, {beside, api.ErrDeep}} {
		if err := tree.Valid(x.n); err != x.want {
			t.Errorf("%d: %v, want %v", i, err, x.want)
		}
	}
}

func TestTypesOfVariables(t *testing.T) {
	for _, kind := range []int{0, 1, 2, 3, -1, -2, 10, math.MaxInt, math.MinInt, 1<<32 + 1} {
		for i := range 3 {
			n := with(func(n *api.Node) { (*lists(n)[i])[1].Type = kind })
			if kind == api.TInt || kind == api.TBool {
				good(t, kind, n)
			} else {
				checkValid(t, kind, n, api.ErrShape, (*lists(&n)[i])[1].Pos)
			}
		}
	}
}

func lists(n *api.Node) []*[]api.Decl { return []*[]api.Decl{&n.In, &n.Out, &n.Local} }

func TestNumbersOfClocks(t *testing.T) {
	for count := range 12 {
		clocks := slices.Repeat([]api.Clock{{Name: "c", On: count%2 == 0}}, count)
		for i := range 3 {
			for at := range 2 {
				n := with(func(n *api.Node) { (*lists(n)[i])[at].Clocks = clocks })
				if count == 0 || i == 2 && count <= 4 {
					good(t, []int{i, at, count}, n)
				} else {
					checkValid(t, []int{i, at, count}, n, api.ErrShape, (*lists(&n)[i])[at].Pos)
				}
			}
		}
	}
}

func TestShapesOfEquations(t *testing.T) {
	for i, x := range []struct {
		do  func(n *api.Node)
		err error
		pos int
	}{
		{func(n *api.Node) { n.Eqs[0].Left = nil }, api.ErrShape, 5},
		{func(n *api.Node) { n.Eqs[1].Left = nil }, api.ErrShape, 2},
		{func(n *api.Node) { n.Eqs[2].Left = []string{} }, api.ErrShape, -9},
		{func(n *api.Node) { n.Eqs[0].Left = []string{"x", "x"} }, api.ErrShape, 5},
		{func(n *api.Node) { n.Eqs[2].Left = []string{"w", "v", "y"} }, api.ErrShape, -9},
		{func(n *api.Node) { n.Eqs[1].Left = slices.Repeat([]string{"y"}, 100) }, nil, alone},
		{func(n *api.Node) { n.Eqs[0].Every = "c" }, api.ErrShape, 5},
		{func(n *api.Node) { n.Eqs[1].Every = "" }, nil, alone},
		{func(n *api.Node) { n.Eqs[3].Every = "c" }, nil, alone},
		{func(n *api.Node) { n.Eqs[0].Args = []api.Expr{variable("a")} }, api.ErrShape, 5},
		{func(n *api.Node) { n.Eqs[2].Args = make([]api.Expr, 1) }, api.ErrShape, -9},
		{func(n *api.Node) { n.Eqs[1].Args = nil }, nil, alone},
		{func(n *api.Node) { n.Eqs[1].Node = "" }, api.ErrShape, 2},
		{func(n *api.Node) { n.Eqs[0].Node = "g" }, api.ErrShape, 5},
		{func(n *api.Node) { n.Eqs[2].Node = "g" }, api.ErrShape, -9},
		{func(n *api.Node) { n.Eqs[2].Node, n.Eqs[2].Expr.Op = "g", 0 }, nil, alone},
		{func(n *api.Node) { n.Eqs[1].Expr = number(0) }, api.ErrShape, 2},
		{func(n *api.Node) { n.Eqs[1].Expr.Op = -1 }, api.ErrShape, 2},
		{func(n *api.Node) { n.Eqs[1].Expr.Op = 26 }, api.ErrShape, 2},
		{func(n *api.Node) { n.Eqs[1].Expr.Op = math.MinInt }, api.ErrShape, 2},
		{func(n *api.Node) { n.Eqs[1].Expr = api.Expr{Pos: 8, Op: 26} }, api.ErrShape, 2},
	} {
		checkValid(t, i, with(x.do), x.err, x.pos)
	}
}

// checkPart puts a part in each kind of place of a node: the errors of the parts around it do not stand ahead of its own.
func checkPart(t *testing.T, what any, e api.Expr, want error) {
	t.Helper()
	e.Pos = 77
	pos := e.Pos
	if want == nil {
		pos = alone
	}
	for i, n := range []api.Node{
		ofExpr(e), ofArgs(e), ofArgs(variable("a"), e), ofArgs(variable("a"), number(1), e, variable("b")),
		ofExpr(of(api.Neg, e)), ofExpr(of(api.Fby, e, number(0))), ofExpr(of(api.Fby, number(0), e)), ofArgs(of(api.Pre, of(api.Pre, e))),
		ofExpr(of(api.If, variable("a"), e, variable("b"))), ofExpr(of(api.If, variable("a"), variable("b"), e)), ofArgs(named(api.Merge, "c", variable("a"), e)),
		with(func(n *api.Node) { n.Eqs[2].Expr.L[0] = e }), with(func(n *api.Node) { n.Eqs[3].Args = []api.Expr{e} }),
	} {
		checkValid(t, []any{what, i}, n, want, pos)
	}
}

func TestNumbersOfOperands(t *testing.T) {
	for op := 1; op <= 25; op++ {
		checkPart(t, op, part(op), nil)
		for count := range 6 {
			e := part(op)
			if e.L = slices.Repeat([]api.Expr{variable("a")}, count); count != arity(op) {
				checkPart(t, []int{op, count}, e, api.ErrShape)
			} else {
				checkPart(t, []int{op, count}, e, nil)
			}
		}
	}
}

func TestOpsThatAreNone(t *testing.T) {
	for _, op := range []int{0, -1, 26, 27, -25, 100, math.MaxInt, math.MinInt, 1<<32 + 1, 1<<32 + 4, -1<<32 + 6, 257, 262} {
		for count := range 6 {
			e := of(op, slices.Repeat([]api.Expr{variable("a")}, count)...)
			checkPart(t, []int{op, count}, e, api.ErrShape)
			e.Name = "c"
			checkPart(t, []int{op, count}, e, api.ErrShape)
		}
	}
}

func TestNAndNameOfParts(t *testing.T) {
	for op := 1; op <= 25; op++ {
		for _, n := range numbers() {
			e := part(op)
			e.N = n
			if goodN(op, n) {
				checkPart(t, []any{op, n}, e, nil)
			} else {
				checkPart(t, []any{op, n}, e, api.ErrShape)
			}
		}
		for _, name := range goodNames() {
			e := part(op)
			if e.Name = name; hasName(op) {
				checkPart(t, []any{op, name}, e, nil)
			} else {
				checkPart(t, []any{op, name}, e, api.ErrShape)
			}
		}
		for _, name := range badNames() {
			e := part(op)
			if e.Name = name; hasName(op) {
				checkPart(t, []any{op, name}, e, api.ErrName)
				e.N = -1
				checkPart(t, []any{op, name, e.N}, e, api.ErrShape)
				e.N, e.L = 0, make([]api.Expr, 4)
			}
			checkPart(t, []any{op, name}, e, api.ErrShape)
		}
		if e := part(op); hasName(op) {
			e.Name = ""
			checkPart(t, op, e, api.ErrName)
		}
	}
}
