package show_test

import (
	"strings"
	"testing"

	"pendulum/api"
	"pendulum/show"
)

// checkDecl holds the text of a declaration, alone and among the locals of a node, against the one that is wanted.
func checkDecl(t *testing.T, d api.Decl, want string) {
	t.Helper()
	n := around(by(number(1)))
	n.Local = []api.Decl{d}
	mustBeValid(t, n)
	if got := show.Decl(d); got != want {
		t.Errorf("Decl = %q, want %q", got, want)
	}
	want = "node f() returns (x: int);\nvar " + want + ";\nlet\n  x = 1;\ntel\n"
	if got := show.Node(n); got != want {
		t.Errorf("Node = %q, want %q", got, want)
	}
}

func TestDecl(t *testing.T) {
	checkDecl(t, decl("x", api.TInt), "x: int")
	checkDecl(t, decl("x", api.TBool), "x: bool")
	checkDecl(t, decl("x", api.TInt, on("c")), "x: int when c")
	checkDecl(t, decl("x", api.TInt, off("c")), "x: int when not c")
	checkDecl(t, decl("x", api.TBool, on("c")), "x: bool when c")
	checkDecl(t, decl("x", api.TBool, off("c")), "x: bool when not c")
	checkDecl(t, decl("x", api.TBool, on("c"), off("d")), "x: bool when c when not d")
	checkDecl(t, decl("x", api.TInt, off("d"), on("c")), "x: int when not d when c")
	checkDecl(t, decl("x", api.TInt, on("d"), on("c"), on("d")), "x: int when d when c when d")
	checkDecl(t, decl("y", api.TInt, on("d"), off("c"), off("a"), on("b")), "y: int when d when not c when not a when b")
	checkDecl(t, decl("y", api.TBool, off("a"), off("a"), off("a"), off("a")), "y: bool when not a when not a when not a when not a")
	for _, name := range goodNames() {
		checkDecl(t, decl(name, api.TInt), name+": int")
		checkDecl(t, decl(name, api.TBool, on(name), off(name)), name+": bool when "+name+" when not "+name)
	}
}

// checkEquation holds the text of an equation, alone and in a node, against the one that is wanted.
func checkEquation(t *testing.T, q api.Equation, want string) {
	t.Helper()
	mustBeValid(t, around(q))
	if got := show.Equation(q); got != want {
		t.Errorf("Equation = %q, want %q", got, want)
	}
	want = "node f() returns (x: int);\nlet\n  " + want + ";\ntel\n"
	if got := show.Node(around(q)); got != want {
		t.Errorf("Node = %q, want %q", got, want)
	}
}

// call is an equation by a node.
func call(left, node, every string, args ...api.Expr) api.Equation {
	return api.Equation{Left: strings.Fields(left), Node: node, Args: args, Every: every}
}

func TestEquationByAnExpression(t *testing.T) {
	for _, name := range goodNames() {
		checkEquation(t, api.Equation{Left: []string{name}, Expr: variable(name)}, name+" = "+name)
	}
	checkEquation(t, by(number(0)), "x = 0")
	checkEquation(t, by(of(api.Eq, variable("x"), variable("y"))), "x = x = y")
	checkEquation(t, by(of(api.Add, of(api.Neg, variable("a")), number(2))), "x = (-a) + 2")
}

func TestEquationByANode(t *testing.T) {
	a, b := variable("a"), variable("b")
	sum := of(api.Add, a, number(1))
	checkEquation(t, call("x", "f", ""), "x = f()")
	checkEquation(t, call("x", "f", "r"), "x = f() every r")
	checkEquation(t, call("x", "f", "", a), "x = f(a)")
	checkEquation(t, call("x", "f", "r", a), "x = f(a) every r")
	checkEquation(t, call("x", "f", "", a, b), "x = f(a, b)")
	checkEquation(t, call("x y", "f", ""), "x, y = f()")
	checkEquation(t, call("x y", "f", "", a, b), "x, y = f(a, b)")
	checkEquation(t, call("x y", "f", "y", a, b), "x, y = f(a, b) every y")
	checkEquation(t, call("z y x y", "g", "r", b, a, b, number(7)), "z, y, x, y = g(b, a, b, 7) every r")
	for _, name := range goodNames() {
		checkEquation(t, call(name+" x", name, name, variable(name)), name+", x = "+name+"("+name+") every "+name)
	}
	// Arguments are no operands.
	checkEquation(t, call("x", "f", "", sum, of(api.Neg, sum)), "x = f(a + 1, -(a + 1))")
	checkEquation(t, call("x", "f", "r", of(api.If, a, sum, b), when(a, "c"), merge("c", sum, b)), "x = f(if a then (a + 1) else b, a when c, merge(c, a + 1, b)) every r")
	checkEquation(t, call("x", "f", "", truth(1), number(0)), "x = f(true, 0)")
	for _, f := range forms() {
		e, text := f.part(-1, api.Expr{}, "")
		checkEquation(t, call("x", "f", "", e, a, e), "x = f("+text+", a, "+text+")")
	}
}

// TestExprBesideANode: Valid accepts one without an Op, and it is no part of the equation.
func TestExprBesideANode(t *testing.T) {
	q := call("x", "f", "", variable("a"))
	q.Expr = api.Expr{N: 5, Name: "b", L: []api.Expr{variable("c")}}
	checkEquation(t, q, "x = f(a)")
}

func checkNode(t *testing.T, n api.Node, want string) {
	t.Helper()
	mustBeValid(t, n)
	if got := show.Node(n); got != want {
		t.Errorf("Node = %q, want %q", got, want)
	}
}

func TestNode(t *testing.T) {
	checkNode(t, sample(), sampleText)
	checkNode(t, around(by(number(1))), "node f() returns (x: int);\nlet\n  x = 1;\ntel\n")
	checkNode(t, api.Node{
		Name: "f", In: []api.Decl{decl("a", api.TInt), decl("b", api.TBool)}, Out: []api.Decl{decl("x", api.TInt)},
		Local: []api.Decl{decl("y", api.TInt), decl("z", api.TBool, on("b"))},
		Eqs:   []api.Equation{by(variable("y")), {Left: []string{"y"}, Expr: variable("a")}},
	}, "node f(a: int; b: bool) returns (x: int);\nvar y: int; z: bool when b;\nlet\n  x = y;\n  y = a;\ntel\n")
}

// TestNodeSizes: none, one and several of each list.
func TestNodeSizes(t *testing.T) {
	decls := []api.Decl{decl("a", api.TInt), decl("λ", api.TBool), decl("c", api.TInt)}
	decl0 := []string{"", "a: int", "a: int; λ: bool", "a: int; λ: bool; c: int"}
	eqs := []api.Equation{by(number(1)), call("y z", "g", "r", variable("a")), by(of(api.Pre, variable("x")))}
	eqs0 := []string{"", "  x = 1;\n", "  x = 1;\n  y, z = g(a) every r;\n", "  x = 1;\n  y, z = g(a) every r;\n  x = pre x;\n"}
	vars := []string{"", "var a: int;\n", "var a: int; λ: bool;\n", "var a: int; λ: bool; c: int;\n"}
	for in := range 4 {
		for out := 1; out < 4; out++ {
			for local := range 4 {
				for eq := 1; eq < 4; eq++ {
					n := api.Node{Name: "f", In: decls[:in], Out: decls[:out], Local: decls[:local], Eqs: eqs[:eq]}
					checkNode(t, n, "node f("+decl0[in]+") returns ("+decl0[out]+");\n"+vars[local]+"let\n"+eqs0[eq]+"tel\n")
				}
			}
		}
	}
}

func TestNodeNames(t *testing.T) {
	for _, name := range goodNames() {
		n := around(call(name, name, ""))
		n.Name, n.In, n.Out = name, []api.Decl{decl(name, api.TBool)}, []api.Decl{decl(name, api.TBool)}
		checkNode(t, n, "node "+name+"("+name+": bool) returns ("+name+": bool);\nlet\n  "+name+" = "+name+"();\ntel\n")
	}
}

// TestAsManyVariablesAsThereMayBe: MaxVars locals, inputs and outputs, and far more equations.
func TestAsManyVariablesAsThereMayBe(t *testing.T) {
	n := around(call("x", "g", ""))
	for range api.MaxVars - 1 {
		n.Local = append(n.Local, decl("y", api.TInt, on("c"), off("c"), on("c"), off("c")))
	}
	for range 999 {
		n.Eqs = append(n.Eqs, n.Eqs[0])
	}
	text := "y: int when c when not c when c when not c"
	vars := "var " + strings.Repeat(text+"; ", api.MaxVars-2) + text + ";\n"
	checkNode(t, n, "node f() returns (x: int);\n"+vars+"let\n"+strings.Repeat("  x = g();\n", 1000)+"tel\n")

	n = around(by(number(1)))
	n.In = make([]api.Decl, api.MaxVars-1)
	for i := range n.In {
		n.In[i] = decl("a", api.TBool)
	}
	inputs := strings.Repeat("a: bool; ", api.MaxVars-2) + "a: bool"
	checkNode(t, n, "node f("+inputs+") returns (x: int);\nlet\n  x = 1;\ntel\n")

	n.In, n.Out = n.In[:0], append(n.In, n.Out...)
	checkNode(t, n, "node f() returns ("+inputs+"; x: int);\nlet\n  x = 1;\ntel\n")
}
