package parse_test

import (
	"strconv"
	"strings"
	"testing"

	"pendulum/api"
	"pendulum/parse"
	"pendulum/show"
)

// checkNode holds the tree of a node against the model's, and its text against the one that is wanted.
func checkNode(t *testing.T, s, want string) {
	t.Helper()
	n, err := parse.Node(s)
	if err != nil {
		t.Errorf("Node(%q): %v", s, err)
		return
	}
	if got := show.Node(n); got != want {
		t.Errorf("Node(%q) = %q, want %q", s, got, want)
	}
	compareNode(t, s)
}

// node is the text of a node, as show has it, with those inputs, outputs, locals and equations.
func node(in, out, local string, eqs ...string) string {
	s := "node f(" + in + ") returns (" + out + ");\n"
	if local != "" {
		s += "var " + local + ";\n"
	}
	s += "let\n"
	for _, q := range eqs {
		s += "  " + q + ";\n"
	}
	return s + "tel\n"
}

// sample is a node with all that a node may have.
const sample = `-- λ: a sample
node f(a, b: int; c: bool; λ: int)
returns (x: int; y, y1: bool);
var z, w: int when c when not λ; u: bool;
	v: int when not c;
let
  x, y = g(a + 1, if c then b else -2, λ) every c; -- a call
  z = (merge(c, 1 when c, 2)) when not λ;
  w = h();
  u = pre not (c or true) -> if a <= b then false else u fby c;
  v = a;
  y1 = k(a) every u; x = g;
tel`

func TestSample(t *testing.T) {
	checkNode(t, sample, node("a: int; b: int; c: bool; λ: int", "x: int; y: bool; y1: bool",
		"z: int when c when not λ; w: int when c when not λ; u: bool; v: int when not c",
		"x, y = g(a + 1, if c then b else (-2), λ) every c",
		"z = merge(c, 1 when c, 2) when not λ",
		"w = h()",
		"u = (pre (not (c or true))) -> (if (a <= b) then false else (u fby c))",
		"v = a",
		"y1 = k(a) every u",
		"x = g",
	))
	n := mustNode(t, sample)
	if n.Name != "f" || len(n.In) != 4 || len(n.Out) != 3 || len(n.Local) != 4 || len(n.Eqs) != 7 {
		t.Errorf("%v", n)
	}
}

func TestLeastNode(t *testing.T) {
	want := api.Node{
		Name: "f", Out: []api.Decl{{Pos: 18, Name: "x", Type: api.TInt}},
		Eqs: []api.Equation{{Pos: 30, Left: []string{"x"}, Expr: api.Expr{Op: api.Int, Pos: 34, N: 1}}},
	}
	s := "node f() returns (x: int); let x = 1; tel"
	want.Eqs[0].Pos, want.Eqs[0].Expr.Pos = strings.LastIndex(s, "x"), strings.Index(s, "1")
	for _, more := range []string{"", "\n", " -- a comment", "\n\n\t"} {
		if n := mustNode(t, s+more); !equal(n, want) {
			t.Errorf("Node(%q) = %v, want %v", s+more, n, want)
		}
	}
	checkNode(t, "node f()returns(x:int);let x=1;tel", node("", "x: int", "", "x = 1"))
	checkNode(t, "--\nnode--(\nf\n(\n)\treturns ( x : int ) ; --\nlet x = 1 ; tel--", node("", "x: int", "", "x = 1"))
}

// TestDeclarations: as inputs, as outputs and as locals.
func TestDeclarations(t *testing.T) {
	for s, want := range map[string]string{
		"x: int":                             "x: int",
		"x: bool":                            "x: bool",
		"x, y: int":                          "x: int; y: int",
		"x, y, z: bool":                      "x: bool; y: bool; z: bool",
		"x: int; y: bool":                    "x: int; y: bool",
		"x, y: bool; z: int; u, v: bool":     "x: bool; y: bool; z: int; u: bool; v: bool",
		"x: int; x: int":                     "x: int; x: int",
		"λ1, intx: int; x: bool; bool_: int": "λ1: int; intx: int; x: bool; bool_: int",
	} {
		checkNode(t, "node f("+s+") returns ("+s+"); var "+s+"; let x = 1; tel", node(want, want, want, "x = 1"))
		checkNode(t, "node f() returns ("+s+"); let x = 1; tel", node("", want, "", "x = 1"))
	}
	for s, want := range map[string]string{
		"x: int when c":                                       "x: int when c",
		"x: bool when not c":                                  "x: bool when not c",
		"x: int when c when not d when d when c":              "x: int when c when not d when d when c",
		"x, y: int when not c when d; z: bool; u: int when d": "x: int when not c when d; y: int when not c when d; z: bool; u: int when d",
		"x: int when c; y, z: bool when not c when not c":     "x: int when c; y: bool when not c when not c; z: bool when not c when not c",
	} {
		checkNode(t, "node f() returns (x: int); var "+s+"; let x = 1; tel", node("", "x: int", want, "x = 1"))
		// Clocks of inputs and outputs are no error of the syntax.
		refuseNode(t, "node f("+s+") returns (x: int); let x = 1; tel", at(api.ErrShape, len("node f(")))
		refuseNode(t, "node f() returns ("+s+"); let x = 1; tel", at(api.ErrShape, len("node f() returns (")))
	}
}

// TestWrongDeclarations: the position is that of the token that is not allowed, from the declarations on; behind them stands their end.
func TestWrongDeclarations(t *testing.T) {
	for s, pos := range map[string]int{
		"x": 1, "x int": 2, "x: ": 3, "x: y": 3, "x: 1": 3, "x: int int": 7, "x: int, y: int": 6, "x, : int": 3, ", x: int": 0, "x y: int": 2, "x: int y: int": 7,
		"x: int; ; y: int": 8, "; x: int": 0, "1: int": 0, "if: int": 0, "x, 1: int": 3, "x, int: int": 3, ": int": 0, "x:: int": 2, "x = 1": 2, "x: int = 1": 7,
		"x: when c": 3, "x when c: int": 2, "x: int when": 11, "x: int when 1": 12, "x: int when not": 15, "x: int when not not c": 16, "x: int when (c)": 12, "x: int when c, d": 13, "x: int when c d": 14, "x: int when true": 12, "x: int when not 1": 16,
		"x: int not c": 7, "x: int when c not d": 14, "x: int bool": 7, "(x: int)": 0, "x: (int)": 3, "x: merge": 3, "x: int when c y: int": 14, "x: bool; 1": 9,
	} {
		for _, ahead := range []string{"node f(", "node f() returns (", "node f(a: bool; ", "node f() returns (a, b: int; "} {
			full := ahead + s + ") returns (x: int); let x = 1; tel"
			refuseNode(t, full, at(api.ErrWord, tokenAt(full, len(ahead)+pos)))
		}
		ahead := "node f() returns (x: int); var "
		full := ahead + s + "; let x = 1; tel"
		refuseNode(t, full, at(api.ErrWord, tokenAt(full, len(ahead)+pos)))
	}
	// A group has to follow in parentheses, and where there are outputs or locals.
	for s, pos := range map[string]int{
		"node f(x: int;) returns (x: int); let x = 1; tel":                  14,
		"node f() returns (x: int;); let x = 1; tel":                        25,
		"node f() returns (); let x = 1; tel":                               18,
		"node f() returns (x: int); var let x = 1; tel":                     31,
		"node f() returns (x: int); var ; let x = 1; tel":                   31,
		"node f() returns (x: int); var y: int let x = 1; tel":              38,
		"node f() returns (x: int); var y: int; z let x = 1; tel":           41,
		"node f() returns (x: int); var y: int; ; let x = 1; tel":           39,
		"node f() returns (x: int); var y: int; z: int let x = 1; tel":      46,
		"node f() returns (x: int); var y: int; var z: int; let x = 1; tel": 39,
		"node f() returns (x: int); var y: int; 1; let x = 1; tel":          39,
		"node f() returns (x: int); var y: int; z = 1; tel":                 41,
		"node f() returns (x: int); y: int; let x = 1; tel":                 27,
		"node f() returns (x: int) var y: int; let x = 1; tel":              26,
		"node f() returns (x: int); var y: int) let x = 1; tel":             37,
		"node f(; x: int) returns (x: int); let x = 1; tel":                 7,
		"node f(x: int, y: int) returns (x: int); let x = 1; tel":           13,
	} {
		refuseNode(t, s, at(api.ErrWord, pos))
	}
}

// tokenAt is the position of the first token at or behind a byte of a text without other than one-byte runes.
func tokenAt(s string, i int) int {
	for s[i] == ' ' {
		i++
	}
	return i
}

func TestWrongHeads(t *testing.T) {
	for s, pos := range map[string]int{
		"f() returns (x: int); let x = 1; tel":                  0,
		"let x = 1; tel":                                        0,
		"node (x: int) returns (x: int); let x = 1; tel":        5,
		"node 1() returns (x: int); let x = 1; tel":             5,
		"node let() returns (x: int); let x = 1; tel":           5,
		"node node f() returns (x: int); let x = 1; tel":        5,
		"node f returns (x: int); let x = 1; tel":               7,
		"node f g() returns (x: int); let x = 1; tel":           7,
		"node f(): (x: int); let x = 1; tel":                    8,
		"node f()() returns (x: int); let x = 1; tel":           8,
		"node f(); let x = 1; tel":                              8,
		"node f() returns x: int; let x = 1; tel":               17,
		"node f() returns (x: int; let x = 1; tel":              26,
		"node f() returns (x: int) let x = 1; tel":              26,
		"node f() returns (x: int);; let x = 1; tel":            26,
		"node f() returns (x: int); x = 1; tel":                 27,
		"node f() returns (x: int); tel":                        27,
		"node f() returns (x: int); let let x = 1; tel":         31,
		"node f() returns (x: int); let x = 1; tel tel":         42,
		"node f() returns (x: int); let x = 1; tel;":            41,
		"node f() returns (x: int); let x = 1; tel node g()":    42,
		"node f() returns (x: int); let x = 1; let":             38,
		"node f() returns (x: int); let ; tel":                  31,
		"node f() returns (x: int); let x = 1 tel":              37,
		"node f() returns (x: int); let x = 1, tel":             36,
		"node f() returns (x: int); let x = 1;; tel":            37,
		"node f() returns (x: int); let x = 1; y tel":           40,
		"node f() returns (x: int); let x = 1; 1 = x; tel":      38,
		"node f() returns (x: int); let x = 1; (y) = x; tel":    38,
		"node f() returns (x: int); let x = 1; var y: int; tel": 38,
	} {
		refuseNode(t, s, at(api.ErrWord, pos))
	}
	if _, err := parse.Node("node f() returns (x: int); let tel"); err != api.ErrMany {
		t.Error(err)
	}
}

func TestEquations(t *testing.T) {
	for s, want := range map[string]string{
		"x = 1":                  "x = 1",
		"x = a":                  "x = a",
		"x = (a)":                "x = a",
		"x = a + b":              "x = a + b",
		"x = a when c":           "x = a when c",
		"x = (f)":                "x = f",
		"x = a = b":              "x = a = b",
		"x = -f":                 "x = -f",
		"x = true":               "x = true",
		"x = merge(c, a, b)":     "x = merge(c, a, b)",
		"x = if a then b else c": "x = if a then b else c",
		"x = a -> pre b":         "x = a -> (pre b)",
		"x = g()":                "x = g()",
		"x = g ( )":              "x = g()",
		"x = g -- \n\n ()":       "x = g()",
		"x = g(a)":               "x = g(a)",
		"x = g((a))":             "x = g(a)",
		"x = g(a, b)":            "x = g(a, b)",
		"x = g(a + 1, b -> c, merge(c, a, b), not d, 7)": "x = g(a + 1, b -> c, merge(c, a, b), not d, 7)",
		"x = g(if a then b else c -> d, e)":              "x = g(if a then b else (c -> d), e)",
		"x = g() every r":                                "x = g() every r",
		"x = g(a) every g":                               "x = g(a) every g",
		"x = x(x) every x":                               "x = x(x) every x",
		"x, y = g()":                                     "x, y = g()",
		"x, y = g(a, b) every r":                         "x, y = g(a, b) every r",
		"x, y, z, x = g(a fby b)":                        "x, y, z, x = g(a fby b)",
		"λ, x_1=λ(λ,λ)every λ":                           "λ, x_1 = λ(λ, λ) every λ",
	} {
		checkNode(t, equation(s), node("", "x: int", "", want))
		checkNode(t, equation("y = 2; "+s+"; z = g()"), node("", "x: int", "", "y = 2", want, "z = g()"))
	}
	q := mustNode(t, equation("x, y = g(a, 1) every r")).Eqs[0]
	pos := len("node f() returns (x: int); let ")
	want := api.Equation{
		Pos: pos, Left: []string{"x", "y"}, Node: "g", Every: "r",
		Args: []api.Expr{{Op: api.Var, Pos: pos + 9, Name: "a"}, {Op: api.Int, Pos: pos + 12, N: 1}},
	}
	if !equal(q, want) {
		t.Errorf("%v, want %v", q, want)
	}
}

// TestWrongEquations: the position is that of the token that is not allowed, from the equation on; behind it stands its `;`.
func TestWrongEquations(t *testing.T) {
	for s, pos := range map[string]int{
		"x": 1, "x =": 3, "= 1": 0, "x 1": 2, "x = = 1": 4, "x == 1": 3, "x: 1": 1, "x = 1 2": 6, "x = 1)": 5, "x = (1": 6, "x = 1, 2": 5, "x = a b": 6, "(x) = 1": 0, "x + 1 = 2": 2, "x = 1 every r": 6, "x = a every r": 6, "x = y: int": 5,
		"x, = g()": 3, ", x = g()": 0, "x, 1 = g()": 3, "x,, y = g()": 2, "x y = g()": 2, "x, (y) = g()": 3, "x, y g()": 5, "x, if = g()": 3, "x, y": 4,
		// A call, and nothing in its place.
		"x = g() + 1": 8, "x = g(1)(2)": 8, "x = g() when c": 8, "x = g() -> 1": 8, "x = g() g()": 8, "x = g(), h()": 7, "x = g() every": 13, "x = g() every 1": 14, "x = g() every (r)": 14, "x = g() every not r": 14, "x = g() every r + 1": 16, "x = g() every r every r": 16, "x = g() every r, s": 15, "x = g() every r(1)": 15, "x = g(1) then": 9,
		"x = g(": 6, "x = g(a": 7, "x = g(a,": 8, "x = g(a, )": 9, "x = g(, a)": 6, "x = g(a b)": 8, "x = g(a;)": 7, "x = g(a))": 8, "x = g(a every r)": 8, "x = g(h(a))": 7, "x = g(a, h(a))": 10, "x = g((a)": 9, "x = g(a, , b)": 9, "x = g(every r)": 6, "x = g((a, b))": 8,
		// A call within an expression.
		"x = a + g(b)": 9, "x = (g(b))": 6, "x = (g)(b)": 7, "x = -g(b)": 6, "x = a -> g(b)": 10, "x = if g(b) then a else c": 8, "x = merge(c, g(a), b)": 14, "x = 1(a)": 5, "x = true(a)": 8, "x = a = b(c)": 9, "x = not(a)(b)": 10,
		// Several names without a call: the token behind the `=` or, if that is a name, the one behind it.
		"x, y = 1": 7, "x, y = (a)": 7, "x, y = -a": 7, "x, y = not a": 7, "x, y = pre a": 7, "x, y = true": 7, "x, y = if a then b else c": 7, "x, y = merge(c, a, b)": 7, "x, y = (g(a))": 7, "x, y =": 6, "x, y = = 1": 7, "x, y = ) a": 7, "x, y = every r": 7,
		"x, y = a": 8, "x, y = a + b": 9, "x, y = a b": 9, "x, y = a, b": 8, "x, y = a when c": 9, "x, y = a -> g(b)": 9, "x, y = a every r": 9, "x, y = a)": 8, "x, y = a 1": 9, "x, y, z = a = b": 12, "x, y = g(a), h(b)": 11, "x, y = g(a) + 1": 12,
	} {
		for _, ahead := range []string{"", "y = 2; ", "x, y = g(a) every r; "} {
			full := equation(ahead + s)
			start := len("node f() returns (x: int); let " + ahead)
			refuseNode(t, full, at(api.ErrWord, tokenAt(full, start+pos)))
		}
	}
}

// TestSeveralNamesAndNoCall: each token behind the `=`, and each behind a name there.
func TestSeveralNamesAndNoCall(t *testing.T) {
	ahead := "node f() returns (x: int); let x, y = "
	for _, s := range allTokens() {
		if s != "a" {
			refuseNode(t, ahead+s+" b; tel", at(api.ErrWord, len(ahead)))
			refuseNode(t, ahead+s+" (b); tel", at(api.ErrWord, len(ahead)))
			refuseNode(t, ahead+s, at(api.ErrWord, len(ahead)))
		}
		if s != "(" {
			refuseNode(t, ahead+"a "+s+" b; tel", at(api.ErrWord, len(ahead)+2))
			refuseNode(t, ahead+"a "+s, at(api.ErrWord, len(ahead)+2))
		}
	}
	refuseNode(t, ahead, at(api.ErrEnd, len(ahead)))
	refuseNode(t, ahead+"a", at(api.ErrEnd, len(ahead)+1))
	refuseNode(t, ahead+"a(", at(api.ErrEnd, len(ahead)+2))
}

// TestCutOff: what begins a node, but is none, ends too early.
func TestCutOff(t *testing.T) {
	for _, s := range []string{sample, node("", "x: int", "", "x = 1"), node("", "x: int", "y: bool when not c", "x, y = g(a, b) every r")} {
		list := pieces(t, s)
		for n := range list {
			cut := strings.Join(list[:n], " ")
			refuseNode(t, cut, at(api.ErrEnd, len([]rune(cut))))
			refuseNode(t, cut+" \n-- λ", at(api.ErrEnd, len([]rune(cut))+6))
		}
	}
}

// TestErrorsInTheirOrder: of the tokens, of the syntax, of the tree.
func TestErrorsInTheirOrder(t *testing.T) {
	refuseNode(t, "node f(a: int when c) returns () $", at(api.ErrRune, 33))
	refuseNode(t, "node f(a: int when c) returns ()", at(api.ErrWord, 31))
	refuseNode(t, "node f(a: int when c) returns (x: int); let x = 1; tel", at(api.ErrShape, 7))
	refuseNode(t, "node f(a: int when c) returns (x: int); let x = 1; tel a", at(api.ErrWord, 55))
	refuseNode(t, "node f(a: int when c) returns (x: int); let x = 1; tel 01", at(api.ErrNumber, 55))
	refuseNode(t, "node f(a: int when c) returns (x: int); let x = 1;", at(api.ErrEnd, 50))
	refuseNode(t, ") $ 01", at(api.ErrRune, 2))
	refuseNode(t, ") 01 $", at(api.ErrNumber, 2))
	refuseNode(t, "node f() returns (x: int); let x = 1 2; y = 3 4; tel", at(api.ErrWord, 37))

	clocks := "when c when c when c when c"
	refuseNode(t, "node f() returns (x: int); var y: int; z, u: int "+clocks+" when c; let x = 1; tel", at(api.ErrShape, 39))
	checkNode(t, "node f() returns (x: int); var z, u: int "+clocks+"; let x = 1; tel", node("", "x: int", "z: int "+clocks+"; u: int "+clocks, "x = 1"))
	refuseNode(t, "node f(a: int; b: bool when not a) returns (x: int when a); let x = 1; tel", at(api.ErrShape, 15))
	refuseNode(t, "node f(a: int; b: bool) returns (y: bool; λ, x: int when a); let x = 1; tel", at(api.ErrShape, 42))

	// ErrMany and ErrDeep come alone.
	refuseNode(t, "node f() returns (x: int when c); let tel", api.ErrMany)
	refuseNode(t, "node f() returns (x: int when c); let x = "+sums(api.MaxNest+1)+"; tel", api.ErrDeep)
	refuseNode(t, "node f() returns (x: int when c); let x = "+sums(api.MaxNest)+"; tel", at(api.ErrShape, 18))
	refuseNode(t, "node f() returns (x: int); let x = g("+sums(api.MaxExprs)+", a); tel", api.ErrMany)
	refuseNode(t, "node f() returns (x: int); let x = g("+sums(api.MaxNest+1)+"; tel", at(api.ErrWord, 37+len(sums(api.MaxNest+1))))
}

func TestAsManyAsThereMayBe(t *testing.T) {
	vars := func(n int) string {
		var names []string
		for i := range n {
			names = append(names, "a"+strconv.Itoa(i))
		}
		return strings.Join(names, ", ") + ": int"
	}
	mustNode(t, "node f("+vars(api.MaxVars-1)+") returns (x: int); let x = 1; tel")
	refuseNode(t, "node f("+vars(api.MaxVars)+") returns (x: int); let x = 1; tel", api.ErrMany)
	mustNode(t, "node f(x: int) returns (x: int); var "+vars(api.MaxVars-2)+"; let x = 1; tel")
	refuseNode(t, "node f(x: int) returns (x: int); var "+vars(api.MaxVars-1)+"; let x = 1; tel", api.ErrMany)
	mustNode(t, "node f() returns ("+vars(api.MaxVars)+"); let x = 1; tel")
	refuseNode(t, "node f() returns ("+vars(900)+"); let x = 1; tel", api.ErrMany)

	args := func(n int) string { return "x = g(" + strings.Repeat("a, ", n-1) + "a)" }
	if n := mustNode(t, equation(args(api.MaxExprs))); len(n.Eqs[0].Args) != api.MaxExprs {
		t.Errorf("%d arguments", len(n.Eqs[0].Args))
	}
	refuseNode(t, equation(args(api.MaxExprs+1)), api.ErrMany)
	eqs := func(n int) string { return "node f() returns (x: int); let " + strings.Repeat("x = g(); ", n) + "tel" }
	if n := mustNode(t, eqs(400)); len(n.Eqs) != 400 {
		t.Errorf("%d equations", len(n.Eqs))
	}
	left := strings.Repeat("x, ", 500) + "x = g()"
	if n := mustNode(t, equation(left)); len(n.Eqs[0].Left) != 501 {
		t.Errorf("%d names", len(n.Eqs[0].Left))
	}
	full := node("", "x: int", "", "x = 1")
	mustNode(t, full+strings.Repeat(" ", api.MaxText-len(full)))
	refuseNode(t, full+strings.Repeat(" ", api.MaxText-len(full)+1), api.ErrMany)
}
