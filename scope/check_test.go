package scope_test

import (
	"slices"
	"strconv"
	"strings"
	"testing"

	"pendulum/api"
	"pendulum/tree"
)

func TestExample(t *testing.T) {
	checkText(t, "node f() returns (x: int); let x = @y; tel", api.ErrName)
}

func TestNodesWithoutError(t *testing.T) {
	for _, s := range []string{
		"node f() returns (x: int); let x = 1; tel",
		"node f(a: int) returns (x: int); let x = a; tel",
		"node f(a: int; b: bool) returns (x: int; y: bool); var z: int; let y = b; z = a + x; x = z fby a; tel",
		// What an equation uses may be defined later, or by itself.
		"node f() returns (x: int); let x = x; tel",
		"node f() returns (x, y, z: int); let x = z; y = x; z = y; tel",
		"node f() returns (x, y: int); let x, y = g(y, x); tel",
		// An input need not be used, and nothing defines it.
		"node f(a, b, c: int) returns (x: int); let x = b; tel",
		// Clocks may have the names of earlier and later variables, of their own one, and of one several times.
		"node f(c: bool) returns (x, d: bool); var y: int when c when not x when e; e: bool when e when d when not e when y; let x = c; d = c; y = 1; e = c; tel",
		// Every may have the name of an input, an output and a local, also of one on its left.
		"node f(a: int) returns (x: int); let x = g() every a; tel",
		"node f() returns (x, y: int); let x = g() every y; y = g() every y; tel",
		"node f() returns (x: int); var y, z: int; let x = g() every z; y, z = g() every z; tel",
		// The names of nodes are none of the names of variables.
		"node f(f: int) returns (x: int); let x = f; tel",
		"node f() returns (g, x: int); let g = g(g) every g; x = f(x); tel",
		// The names of other variables begin or end as theirs.
		"node f(a, aa, b, ab, a1, a_: int) returns (λ, λa, aλ, aaa: int); let λ, aλ = g(a1); aaa = a_ + aa; λa = ab - b + λ; tel",
		// The order of the equations, and which of them have a call, does not matter.
		"node f(a: int) returns (x, y: int); var z, w: int; let w, z = g(a); y = a; x = z; tel",
		"node f(a: int) returns (x, y: int); var z, w: int; let z, y, x = g(a, w, merge(y, a, z) when x) every w; w = g(); tel",
		"node f(a: int) returns (x: int); let x = if a then merge(a, x, a) else pre (-a when not a -> not a); tel",
	} {
		checkText(t, s, nil)
	}
}

// TestErrorsOfTree: they come first, as they are.
func TestErrorsOfTree(t *testing.T) {
	checkError(t, "zero", api.Node{}, api.ErrName, alone)
	good := mustNode(t, "node f(a: int) returns (x: int); var y: int; let x = a; y = a; tel")
	for i, x := range []struct {
		do  func(n *api.Node)
		err error
		pos int
	}{
		{func(n *api.Node) { n.Name = "F" }, api.ErrName, alone},
		{func(n *api.Node) { n.Out = nil }, api.ErrMany, alone},
		{func(n *api.Node) { n.Eqs = nil }, api.ErrMany, alone},
		{func(n *api.Node) { n.In = slices.Repeat(n.In, api.MaxVars-1) }, api.ErrMany, alone},
		{func(n *api.Node) { n.Eqs[1].Expr = deep(api.MaxNest + 1) }, api.ErrDeep, alone},
		{func(n *api.Node) { n.Eqs[1].Expr = deep(1 << 16) }, api.ErrMany, alone},
		{func(n *api.Node) { n.In[0].Clocks = []api.Clock{{Name: "a"}} }, api.ErrShape, 7},
		{func(n *api.Node) { n.In[0].Clocks = []api.Clock{{Name: "q"}} }, api.ErrShape, 7},
		{func(n *api.Node) { n.Out[0].Clocks = []api.Clock{{Name: "x"}} }, api.ErrShape, 24},
		{func(n *api.Node) { n.Out[0].Clocks = []api.Clock{{Name: "a"}, {Name: "q"}} }, api.ErrShape, 24},
		{func(n *api.Node) { n.Local[0].Name = "" }, api.ErrName, 37},
		{func(n *api.Node) { n.Local[0].Clocks = []api.Clock{{Name: "if"}} }, api.ErrName, 37},
		{func(n *api.Node) { n.Local[0].Clocks = slices.Repeat([]api.Clock{{Name: "q"}}, 5) }, api.ErrShape, 37},
		{func(n *api.Node) { n.Eqs[0].Left = nil }, api.ErrShape, 49},
		{func(n *api.Node) { n.Eqs[0].Left = []string{"x", "x"} }, api.ErrShape, 49},
		{func(n *api.Node) { n.Eqs[0].Left[0] = "λ€" }, api.ErrName, 49},
		{func(n *api.Node) { n.Eqs[1].Every = "q" }, api.ErrShape, 56},
		{func(n *api.Node) { n.Eqs[1].Node = "g" }, api.ErrShape, 56},
		{func(n *api.Node) { n.Eqs[1].Expr.Name = "" }, api.ErrName, 60},
		{func(n *api.Node) { n.Eqs[1].Expr.Op = 26 }, api.ErrShape, 60},
		{func(n *api.Node) { n.Eqs[1].Expr.Op = api.Int }, api.ErrShape, 60},
	} {
		n := copyOf(good, 0)
		x.do(&n)
		checkError(t, i, n, x.err, x.pos)
	}
}

// deep has that Depth.
func deep(depth int) api.Expr {
	e := variable("a")
	for range depth - 1 {
		e = api.Expr{Op: api.Neg, L: []api.Expr{e}}
	}
	return e
}

func TestNamesTwice(t *testing.T) {
	for _, s := range []string{
		"node f(a, @a: int) returns (x: int); let x = 1; tel",
		"node f(a: int; @a: bool) returns (x: int); let x = 1; tel",
		"node f(a, b, c, @b: int) returns (x: int); let x = 1; tel",
		"node f(a: int) returns (@a: int); let a = 1; tel",
		"node f(a, b: int) returns (x, y: int; @b: int); let x = 1; tel",
		"node f() returns (x, @x: int); let x = 1; tel",
		"node f(a: int) returns (x, y, @x: int); let x = 1; y = 1; tel",
		"node f(a: int) returns (x: int); var @a: int; let x = 1; a = 1; tel",
		"node f(a: int) returns (x: int); var @x: int; let x = 1; tel",
		"node f(a: int) returns (x, y: int); var b: int; @y: bool; let x = 1; tel",
		"node f() returns (x: int); var y, @y: int; let x = 1; y = 1; tel",
		"node f() returns (x: int); var y, z: int; @y: int; let x = 1; y = 1; z = 1; tel",
		// The first that has the name of an earlier one, not the first whose name stands again.
		"node f(a, b, @b, a: int) returns (x: int); let x = 1; tel",
		"node f(a, b: int) returns (x, @b: int); var a: int; let x = 1; tel",
		"node f(a: int) returns (@a: int); var a, a: int; let a = 1; tel",
		"node f(a, @a, a: int) returns (a: int); let a = 1; tel",
		"node f(λ, λa, a, λaλ, @λ: int) returns (x: int); let x = 1; tel",
	} {
		checkText(t, s, api.ErrTwice)
	}
}

func TestClocksOfNoVariable(t *testing.T) {
	for _, s := range []string{
		"node f(a: int) returns (x: int); var @y: int when c; let x = 1; y = 1; tel",
		"node f(a: int) returns (x: int); var @y: int when not c; let x = 1; y = 1; tel",
		"node f(a: bool) returns (x: int); var @y: int when a when c; let x = 1; y = 1; tel",
		"node f(a: bool) returns (x: int); var @y: int when c when a; let x = 1; y = 1; tel",
		"node f(a: bool) returns (x: int); var @y: int when a when not x when y when c; let x = 1; y = 1; tel",
		"node f(a: bool) returns (x: int); var y: int when a; @z: int when a when c; w: int when a; let x, y, z, w = g(); tel",
		"node f(a: bool) returns (x: int); var y, z: int; @w: int when c; let x, y, z, w = g(); tel",
		// The first variable, not the first clock.
		"node f(a: bool) returns (x: int); var @y: int when a when a when d; z: int when c; let x, y, z = g(); tel",
		"node f(a: bool) returns (x: int); var @y, z: int when c; let x, y, z = g(); tel",
		// The names of nodes are not names of variables; nor are those that begin as one.
		"node f(a: bool) returns (x: int); var @y: int when f; let x = 1; y = g(); tel",
		"node f(a: bool) returns (x: int); var @y: int when g; let x = 1; y = g(); tel",
		"node f(ab: bool) returns (x: int); var @y: int when a; let x = 1; y = 1; tel",
		"node f(a: bool) returns (x: int); var @y: int when ab; let x = 1; y = 1; tel",
	} {
		checkText(t, s, api.ErrName)
	}
}

func TestLeftOfNoVariable(t *testing.T) {
	for _, s := range []string{
		"node f() returns (x: int); let @q = 1; tel",
		"node f() returns (x: int); let x = 1; @q = 1; tel",
		"node f() returns (x: int); let @q = 1; x = 1; tel",
		"node f() returns (x: int); let @x, q = g(); tel",
		"node f() returns (x: int); let @q, x = g(); tel",
		"node f() returns (x, y: int); let @x, y, q = g(); tel",
		"node f() returns (x, y: int); let @x, q, y = g(); tel",
		"node f() returns (x: int); let @f = 1; x = 1; tel",
		"node f() returns (x: int); let @g = g(); x = 1; tel",
		"node f() returns (xy: int); let @x = 1; xy = 1; tel",
		"node f() returns (x: int); let @xy = 1; x = 1; tel",
		// An input.
		"node f(a: int) returns (x: int); let @a = 1; x = 1; tel",
		"node f(a: int) returns (x: int); let x = 1; @a = 1; tel",
		"node f(a: int) returns (x: int); let @x, a = g(); tel",
		"node f(a, b, c: int) returns (x: int); let @b, x = g(); tel",
		"node f(a, b, c: int) returns (x: int); var y: int; let y = 1; @x, c = g(); tel",
		// An input is that, however often it stands on the left.
		"node f(a: int) returns (x: int); let x = 1; @a, a = g(); tel",
		"node f() returns (x: int); let x = 1; @q, q = g(); tel",
	} {
		checkText(t, s, api.ErrName)
	}
}

func TestDefinedTwice(t *testing.T) {
	for _, s := range []string{
		"node f() returns (x: int); let x = 1; @x = 1; tel",
		"node f() returns (x, y: int); let x = 1; y = 1; @x = 2; tel",
		"node f() returns (x, y: int); let x = 1; y = 1; @y = 2; tel",
		"node f() returns (x: int); let x = 1; @x = g(); tel",
		"node f() returns (x: int); let x = g(); @x = 1; tel",
		"node f() returns (x, y, z: int); let x, y = g(); @z, y = h(); tel",
		"node f() returns (x, y, z: int); let x, y = g(); @z, x = h(); tel",
		"node f() returns (x, y, z: int); let x, y = g(); @y, z = h(); tel",
		"node f() returns (x: int); var y, z: int; let x, y = g(); z = 1; @z = 1; tel",
		"node f() returns (x: int); let @x, x = g(); tel",
		"node f() returns (x, y, z: int); let @x, y, z, y = g(); tel",
		"node f() returns (x, y, z: int); let z = 1; @x, y, x = g(); tel",
		"node f() returns (x, y, z: int); let @z, x, y, z = g(); tel",
		// The first equation that does so.
		"node f() returns (x, y: int); let x = 1; @x = 2; y = 1; x = 3; y = 2; tel",
		"node f() returns (x, y: int); let x = 1; y = 1; @y = 2; x = 3; tel",
	} {
		checkText(t, s, api.ErrTwice)
	}
}

// TestFirstNameOfLeft: each name with both of its errors before the next one; the position is that of the equation, so the error tells which name is meant.
func TestFirstNameOfLeft(t *testing.T) {
	for s, want := range map[string]error{
		"q, x":       api.ErrName,
		"x, q":       api.ErrTwice,
		"a, x":       api.ErrName,
		"x, a":       api.ErrTwice,
		"y, y, q":    api.ErrTwice,
		"y, q, y":    api.ErrName,
		"y, a, y":    api.ErrName,
		"y, z, y, a": api.ErrTwice,
		"y, z, q, z": api.ErrName,
		"y, z, z, x": api.ErrTwice,
		"y, z, x, q": api.ErrTwice,
	} {
		checkText(t, "node f(a: int) returns (x, y, z: int); let x = 1; @"+s+" = g(); tel", want)
	}
}

func TestEvery(t *testing.T) {
	for _, s := range []string{
		"node f() returns (x: int); let @x = g() every q; tel",
		"node f() returns (x: int); let @x = g() every g; tel",
		"node f() returns (x: int); let @x = g() every f; tel",
		"node f(ab: bool) returns (x: int); let @x = g() every a; tel",
		"node f(a: bool) returns (x: int); let @x = g() every ab; tel",
		"node f(a: bool) returns (x, y: int); let @x, y = g(a, a) every q; tel",
		"node f(a: bool) returns (x, y: int); let x = g(a) every a; @y = h(a) every q; tel",
		"node f(a: bool) returns (x, y: int); let @x = g(a) every q; y = h(a) every r; tel",
	} {
		checkText(t, s, api.ErrName)
	}
}

func TestPartsOfNoVariable(t *testing.T) {
	for _, s := range []string{
		"@q", "-@q", "not @q", "pre @q", "@q when c", "a @when q", "a @when not q", "merge(c, @q, a)", "merge(c, a, @q)", "@merge(q, a, a)",
		"a + @q", "@q + a", "1 -> @q", "@q -> 1", "a fby @q", "@q fby a", "if @q then a else a", "if a then @q else a", "if a then a else @q",
		// The names of nodes, and those that begin as one of a variable.
		"@f", "@g", "a @when f", "@merge(f, a, a)", "@aa", "@ca", "a @when ca", "@merge(ca, a, a)",
		// The first part: one before its operands, and these from left to right.
		"@q + r", "@q + r * s", "(a + @q) * r", "q @when r", "q when r @when s", "q @when r when c", "@merge(q, r, s)", "merge(c, @r, s)", "merge(c, a @when r, s)",
		"-q @when r", "if @q then r else s", "if c then merge(c, a, @r) else s", "a -> @q -> r", "@q when c -> r", "pre (a + @q) fby r", "(if a then a else @q) + r",
	} {
		for _, around := range []string{
			"x = $; y = 1",
			"y = a; x = $",
			"x = $; y = r",
			"x = g($); y = 1",
			"x, y = g($)",
			"x = g($, r, s); y = 1",
			"x, y = g(a, $)",
			"y = g(a, c); x = g(a, c + 1, $, r) every c",
			"y = merge(c, a, a) when c when not a; x = a + ($)",
		} {
			checkText(t, "node f(a, c: int) returns (x, y: int); let "+strings.Replace(around, "$", s, 1)+"; tel", api.ErrName)
		}
	}
}

// TestPartsEverywhere: a Var, a When and a Merge as each operand of each part, at each depth, in the Expr and in each of the Args.
func TestPartsEverywhere(t *testing.T) {
	const pos = 77
	for _, op := range []int{api.Var, api.When, api.Merge} {
		for outer := api.Neg; outer <= api.Merge; outer++ {
			for place := range arity(outer) {
				for levels := range api.MaxNest - tree.Depth(part(op)) + 1 {
					for name, want := range map[string]error{"v": nil, "g": api.ErrName} {
						e := part(op)
						e.Name, e.Pos = name, pos
						for range levels {
							o := part(outer)
							o.L[place] = e
							e = o
						}
						for _, n := range around(e) {
							checkError(t, "part", n, want, pos)
						}
					}
				}
			}
		}
	}
}

// around are nodes with e as an Expr and as each of three Args.
func around(e api.Expr) []api.Node {
	other := api.Equation{Left: []string{"v"}, Expr: api.Expr{Op: api.Bool}}
	list := []api.Equation{{Left: []string{"x"}, Expr: e}}
	for i := range 3 {
		q := api.Equation{Left: []string{"x"}, Node: "g", Args: []api.Expr{variable("a"), {Op: api.Int}, variable("x")}, Every: "c"}
		q.Args[i] = e
		list = append(list, q)
	}
	var nodes []api.Node
	for i, q := range list {
		eqs := []api.Equation{other, q}
		if i%2 == 1 {
			eqs = []api.Equation{q, other}
		}
		nodes = append(nodes, api.Node{
			Name: "f", In: []api.Decl{{Name: "a", Type: 1}, {Name: "c", Type: 2}}, Out: []api.Decl{{Name: "x", Type: 1}}, Local: []api.Decl{{Name: "v", Type: 2}}, Eqs: eqs,
		})
	}
	return nodes
}

// TestPartsWithoutName: an empty name of a part of another Op is no name of a variable, and no error.
func TestPartsWithoutName(t *testing.T) {
	for op := api.Int; op <= api.Merge; op++ {
		for i, n := range around(part(op)) {
			checkError(t, []int{op, i}, n, nil, 0)
		}
	}
}

// TestExprBesideCall: an Expr without an Op beside a Node is valid, but none of the expressions of the equation.
func TestExprBesideCall(t *testing.T) {
	n := mustNode(t, "node f(a: int) returns (x: int); let x = g(a); tel")
	n.Eqs[0].Expr = api.Expr{Name: "q", L: []api.Expr{variable("q"), part(api.Merge)}}
	checkError(t, "beside a call", n, nil, 0)
	n.Eqs[0].Args[0].Name = "q"
	checkError(t, "beside a wrong call", n, api.ErrName, n.Eqs[0].Args[0].Pos)
}

func TestUndefined(t *testing.T) {
	for _, s := range []string{
		"node f() returns (x, @y: int); let x = 1; tel",
		"node f() returns (@x, y: int); let y = 1; tel",
		"node f(a: int) returns (x, @y, z: int); let x, z = g(y); tel",
		"node f() returns (x: int); var @y: int; let x = 1; tel",
		"node f() returns (x: int); var y, @z: int; let x = z; y = 1; tel",
		"node f() returns (x: int); var @y, z: int; let x = 1; z = 1; tel",
		"node f() returns (@x: int); var y: int; let y = 1; tel",
		// The first of several: the outputs first.
		"node f() returns (x, @y, z: int); var v: int; let x = 1; tel",
		"node f() returns (@x, y, z: int); var v: int; let y = 1; tel",
		"node f(a, b: int) returns (x: int); var v, @w, u: int; let x = a; v = b; tel",
		// Being used, being a clock or an Every does not define it.
		"node f() returns (x, @y: int); let x = y + y; tel",
		"node f() returns (x, @y: int); let x = g(y) every y; tel",
		"node f() returns (x: int); var @y: bool; z: int when y; let x = 1; z = 1; tel",
		// Nor does a name that begins or ends as its name, nor a node of that name.
		"node f() returns (@x, xx, xy: int); let xx = 1; xy = 1; tel",
		"node x() returns (@x, y: int); let y = x(); tel",
	} {
		checkText(t, s, api.ErrNone)
	}
}

// TestAtTheLimits: as many variables as a node may have, defined one by one, and by one equation.
func TestAtTheLimits(t *testing.T) {
	n := api.Node{Name: "f"}
	var all []string
	for i := range api.MaxVars {
		name := strings.Repeat("n", api.MaxName-2) + strconv.Itoa(10+i)
		all = append(all, name)
		d := api.Decl{Pos: i, Name: name, Type: api.TInt}
		switch {
		case i%3 == 0:
			n.Out = append(n.Out, d)
		default:
			d.Clocks = []api.Clock{{Name: name}, {Name: all[0]}, {Name: all[i/2]}, {Name: "n"}}
			d.Clocks[3].Name = all[i/3]
			n.Local = append(n.Local, d)
		}
		n.Eqs = append(n.Eqs, api.Equation{Pos: 100 + i, Left: []string{name}, Expr: variable(all[i/2])})
	}
	checkError(t, "one by one", n, nil, 0)
	last := copyOf(n, 0)
	last.Eqs[api.MaxVars-1].Left[0] = all[api.MaxVars-2]
	checkError(t, "the last one", last, api.ErrTwice, 100+api.MaxVars-1)
	together := copyOf(n, 0)
	together.Eqs = []api.Equation{{Pos: 100, Left: all, Node: "g", Args: slices.Repeat([]api.Expr{variable(all[3])}, api.MaxExprs)}}
	checkError(t, "together", together, nil, 0)
	together.Eqs[0].Args[api.MaxExprs-1] = api.Expr{Op: api.Var, Pos: 99, Name: "n"}
	checkError(t, "the last part", together, api.ErrName, 99)
	together.Eqs[0].Left = append(all, all[0])
	checkError(t, "one more", together, api.ErrTwice, 100)
	together.Eqs[0].Left = all[:api.MaxVars-1]
	together.Eqs[0].Args = nil
	checkError(t, "one less", together, api.ErrNone, api.MaxVars-1)
}

// TestManyEquations: calls without Args may be as many as there is room for; only the first of them are good.
func TestManyEquations(t *testing.T) {
	n := mustNode(t, "node f() returns (x, y: int); let x = g(); tel")
	n.Eqs = slices.Repeat(n.Eqs, 1<<17)
	for i := range n.Eqs {
		n.Eqs[i].Pos = i
	}
	checkError(t, "many equations", n, api.ErrTwice, 1)
	n.Eqs = n.Eqs[:1]
	n.Eqs[0].Left = slices.Repeat([]string{"y"}, 1<<17)
	checkError(t, "a long Left", n, api.ErrTwice, 0)
	n.Eqs[0].Left[1] = "q"
	checkError(t, "a long Left", n, api.ErrName, 0)
}
