package show_test

import (
	"math"
	"strings"
	"testing"

	"pendulum/api"
	"pendulum/show"
	"pendulum/tree"
)

// checkExpr holds the text of an expression, alone and on the right of an equation, against the one that is wanted.
func checkExpr(t *testing.T, e api.Expr, want string) {
	t.Helper()
	mustBeValid(t, around(by(e)))
	if got := show.Expr(e); got != want {
		t.Errorf("Expr = %q, want %q", got, want)
	}
	if got := show.Equation(by(e)); got != "x = "+want {
		t.Errorf("Equation = %q, want %q", got, "x = "+want)
	}
}

func TestExample(t *testing.T) {
	sum := of(api.Add, variable("a"), number(1))
	checkExpr(t, of(api.Mul, sum, of(api.Neg, variable("b"))), "(a + 1) * (-b)")
}

// form is an Op, perhaps with one of its Ns, and its text; A, B and C stand for its operands.
type form struct {
	op   int
	n    int64
	text string
}

// forms are those of all Ops.
func forms() []form {
	return []form{
		{1, 7, "7"}, {2, 0, "false"}, {2, 1, "true"}, {3, 0, "v"},
		{4, 0, "-A"}, {5, 0, "not A"}, {23, 0, "pre A"},
		{6, 0, "A + B"}, {7, 0, "A - B"}, {8, 0, "A * B"}, {9, 0, "A / B"}, {10, 0, "A mod B"},
		{11, 0, "A and B"}, {12, 0, "A or B"}, {13, 0, "A xor B"},
		{14, 0, "A = B"}, {15, 0, "A <> B"}, {16, 0, "A < B"}, {17, 0, "A <= B"}, {18, 0, "A > B"}, {19, 0, "A >= B"},
		{20, 0, "if A then B else C"}, {21, 0, "A fby B"}, {22, 0, "A -> B"},
		{24, 0, "A when not v"}, {24, 1, "A when v"}, {25, 0, "merge(v, A, B)"},
	}
}

// simple reports whether a part of that form stands without parentheses everywhere.
func (f form) simple() bool { return f.op <= 3 || f.op == 25 }

// part is a part of that form, and its text; the operands are variables but for the one of that number (none: -1).
func (f form) part(at int, operand api.Expr, text string) (api.Expr, string) {
	e := api.Expr{Op: f.op, N: f.n}
	if strings.Contains(f.text, "v") {
		e.Name = "v"
	}
	names := []string{"a", "λ", "c_1"}
	var pairs []string
	for i := range arity(f.op) {
		letter := "ABC"[i : i+1]
		if i == at {
			e.L = append(e.L, operand)
			pairs = append(pairs, letter, text)
		} else {
			e.L = append(e.L, variable(names[i]))
			pairs = append(pairs, letter, names[i])
		}
	}
	return e, strings.NewReplacer(pairs...).Replace(f.text)
}

func TestEachOpAlone(t *testing.T) {
	seen := map[int]bool{}
	for _, f := range forms() {
		e, text := f.part(-1, api.Expr{}, "")
		checkExpr(t, e, text)
		seen[f.op] = true
	}
	if len(seen) != 25 {
		t.Errorf("%d Ops are tested, want 25", len(seen))
	}
}

func TestEachOpAsAnOperandOfEachOther(t *testing.T) {
	for _, outer := range forms() {
		for i := range arity(outer.op) {
			for _, inner := range forms() {
				operand, text := inner.part(-1, api.Expr{}, "")
				if outer.op != 25 && !inner.simple() {
					text = "(" + text + ")"
				}
				e, want := outer.part(i, operand, text)
				checkExpr(t, e, want)
			}
		}
	}
}

func TestPairsInFull(t *testing.T) {
	a, b, c := variable("a"), variable("b"), variable("c")
	for want, e := range map[string]api.Expr{
		"-(-a)":                       of(4, of(4, a)),
		"not (not a)":                 of(5, of(5, a)),
		"pre (pre a)":                 of(23, of(23, a)),
		"-(pre (not a))":              of(4, of(23, of(5, a))),
		"pre (-1)":                    of(23, of(4, number(1))),
		"-1":                          of(4, number(1)),
		"a - (-b)":                    of(7, a, of(4, b)),
		"(-a) - b":                    of(7, of(4, a), b),
		"-(a - b)":                    of(4, of(7, a, b)),
		"(a - b) - c":                 of(7, of(7, a, b), c),
		"a - (b - c)":                 of(7, a, of(7, b, c)),
		"(a = b) <> (b < c)":          of(15, of(14, a, b), of(16, b, c)),
		"not (a and b)":               of(5, of(11, a, b)),
		"(not a) and b":               of(11, of(5, a), b),
		"0 -> (pre (a + 1))":          of(22, number(0), of(23, of(6, a, number(1)))),
		"if a then b else c":          of(20, a, b, c),
		"if (not a) then 1 else (-2)": of(20, of(5, a), number(1), of(4, number(2))),
		"true and false":              of(11, truth(1), truth(0)),
		"1 mod (2 / 3)":               of(10, number(1), of(9, number(2), number(3))),
	} {
		checkExpr(t, e, want)
	}
}

func TestIfWithinIf(t *testing.T) {
	a, b, c := variable("a"), variable("b"), variable("c")
	inner := of(api.If, a, b, c)
	checkExpr(t, of(api.If, inner, b, c), "if (if a then b else c) then b else c")
	checkExpr(t, of(api.If, a, inner, c), "if a then (if a then b else c) else c")
	checkExpr(t, of(api.If, a, b, inner), "if a then b else (if a then b else c)")
}

func TestChains(t *testing.T) {
	a, b, c := variable("a"), variable("b"), variable("c")
	d := number(4)
	for op, sign := range map[int]string{api.Arrow: "->", api.Fby: "fby", api.Sub: "-", api.Or: "or", api.Lt: "<"} {
		text := func(s string) string { return strings.ReplaceAll(s, "?", sign) }
		checkExpr(t, of(op, a, of(op, b, c)), text("a ? (b ? c)"))
		checkExpr(t, of(op, of(op, a, b), c), text("(a ? b) ? c"))
		checkExpr(t, of(op, a, of(op, b, of(op, c, d))), text("a ? (b ? (c ? 4))"))
		checkExpr(t, of(op, of(op, of(op, a, b), c), d), text("((a ? b) ? c) ? 4"))
		checkExpr(t, of(op, of(op, a, b), of(op, c, d)), text("(a ? b) ? (c ? 4)"))
		checkExpr(t, of(op, a, of(op, of(op, b, c), d)), text("a ? ((b ? c) ? 4)"))
	}
	checkExpr(t, of(api.Arrow, a, of(api.Fby, b, c)), "a -> (b fby c)")
	checkExpr(t, of(api.Fby, of(api.Arrow, a, b), c), "(a -> b) fby c")
}

func TestNumbersAndTruths(t *testing.T) {
	for want, n := range map[string]int64{
		"0": 0, "1": 1, "9": 9, "10": 10, "1000000": 1000000, "4294967296": 1 << 32, "9223372036854775806": math.MaxInt64 - 1, "9223372036854775807": math.MaxInt64,
	} {
		checkExpr(t, number(n), want)
		checkExpr(t, of(api.Neg, number(n)), "-"+want)
		checkExpr(t, of(api.Sub, number(n), number(n)), want+" - "+want)
	}
	checkExpr(t, truth(1), "true")
	checkExpr(t, truth(0), "false")
}

func TestNamesInExpressions(t *testing.T) {
	a := variable("a")
	for _, name := range goodNames() {
		checkExpr(t, variable(name), name)
		checkExpr(t, of(api.Not, variable(name)), "not "+name)
		checkExpr(t, of(api.Mod, variable(name), variable(name)), name+" mod "+name)
		checkExpr(t, when(variable(name), "a"), name+" when a")
		checkExpr(t, when(a, name), "a when "+name)
		checkExpr(t, whenNot(a, name), "a when not "+name)
		checkExpr(t, merge(name, a, variable(name)), "merge("+name+", a, "+name+")")
	}
}

func TestWhen(t *testing.T) {
	a, b := variable("a"), variable("b")
	sum := of(api.Add, a, number(1))
	checkExpr(t, when(a, "c"), "a when c")
	checkExpr(t, whenNot(a, "c"), "a when not c")
	checkExpr(t, when(number(3), "c"), "3 when c")
	checkExpr(t, whenNot(truth(1), "c"), "true when not c")
	checkExpr(t, when(sum, "c"), "(a + 1) when c")
	checkExpr(t, whenNot(sum, "c"), "(a + 1) when not c")
	checkExpr(t, when(when(a, "c"), "d"), "(a when c) when d")
	checkExpr(t, when(whenNot(a, "c"), "d"), "(a when not c) when d")
	checkExpr(t, whenNot(when(a, "c"), "d"), "(a when c) when not d")
	checkExpr(t, whenNot(whenNot(a, "c"), "c"), "(a when not c) when not c")
	checkExpr(t, when(of(api.Not, a), "c"), "(not a) when c")
	checkExpr(t, of(api.Not, whenNot(a, "c")), "not (a when not c)")
	checkExpr(t, of(api.Add, when(a, "c"), whenNot(b, "d")), "(a when c) + (b when not d)")
	checkExpr(t, when(merge("c", a, b), "d"), "merge(c, a, b) when d")
	checkExpr(t, of(api.If, when(a, "c"), when(b, "c"), whenNot(b, "d")), "if (a when c) then (b when c) else (b when not d)")
}

func TestMerge(t *testing.T) {
	a, b := variable("a"), variable("b")
	sum, difference := of(api.Add, a, number(1)), of(api.Sub, b, of(api.Neg, a))
	checkExpr(t, merge("c", a, b), "merge(c, a, b)")
	checkExpr(t, merge("c", sum, difference), "merge(c, a + 1, b - (-a))")
	checkExpr(t, merge("c", when(a, "c"), whenNot(sum, "c")), "merge(c, a when c, (a + 1) when not c)")
	checkExpr(t, merge("c", merge("d", a, b), b), "merge(c, merge(d, a, b), b)")
	checkExpr(t, merge("c", a, merge("d", sum, b)), "merge(c, a, merge(d, a + 1, b))")
	checkExpr(t, merge("c", merge("c", sum, a), merge("d", a, sum)), "merge(c, merge(c, a + 1, a), merge(d, a, a + 1))")
	checkExpr(t, merge("c", of(api.If, a, b, a), of(api.Arrow, a, b)), "merge(c, if a then b else a, a -> b)")
	checkExpr(t, of(api.Neg, merge("c", sum, b)), "-merge(c, a + 1, b)")
	checkExpr(t, of(api.Pre, merge("c", a, b)), "pre merge(c, a, b)")
	checkExpr(t, of(api.Mul, merge("c", sum, b), merge("c", b, sum)), "merge(c, a + 1, b) * merge(c, b, a + 1)")
	checkExpr(t, of(api.If, merge("c", a, b), sum, merge("d", a, b)), "if merge(c, a, b) then (a + 1) else merge(d, a, b)")
}

// nest puts an expression into another, as often as the levels allow.
func nest(e api.Expr, into func(e api.Expr) api.Expr) api.Expr {
	for tree.Depth(e) < api.MaxNest {
		e = into(e)
	}
	return e
}

func TestAsDeepAsItMayBe(t *testing.T) {
	const more = api.MaxNest - 2 // levels between the first one and the last
	a, b := variable("a"), variable("b")
	times := strings.Repeat
	for want, into := range map[string]func(e api.Expr) api.Expr{
		"-" + times("(-", more) + "a" + times(")", more):                                      func(e api.Expr) api.Expr { return of(api.Neg, e) },
		"not " + times("(not ", more) + "a" + times(")", more):                                func(e api.Expr) api.Expr { return of(api.Not, e) },
		"pre " + times("(pre ", more) + "a" + times(")", more):                                func(e api.Expr) api.Expr { return of(api.Pre, e) },
		times("(", more) + "a" + times(" - b)", more) + " - b":                                func(e api.Expr) api.Expr { return of(api.Sub, e, b) },
		"b -> " + times("(b -> ", more) + "a" + times(")", more):                              func(e api.Expr) api.Expr { return of(api.Arrow, b, e) },
		times("(", more) + "a" + times(" fby b)", more) + " fby b":                            func(e api.Expr) api.Expr { return of(api.Fby, e, b) },
		times("(", more) + "a" + times(" when not c)", more) + " when not c":                  func(e api.Expr) api.Expr { return whenNot(e, "c") },
		times("merge(c, ", more+1) + "a" + times(", b)", more+1):                              func(e api.Expr) api.Expr { return merge("c", e, b) },
		times("merge(c, b, ", more+1) + "a" + times(")", more+1):                              func(e api.Expr) api.Expr { return merge("c", b, e) },
		"if a then b else " + times("(if a then b else ", more) + "a" + times(")", more):      func(e api.Expr) api.Expr { return of(api.If, a, b, e) },
		"if " + times("(if ", more) + "a" + times(" then a else b)", more) + " then a else b": func(e api.Expr) api.Expr { return of(api.If, e, a, b) },
	} {
		checkExpr(t, nest(a, into), want)
	}
}

// TestAsManyAsThereMayBe: MaxExprs parts in one expression.
func TestAsManyAsThereMayBe(t *testing.T) {
	e, operand := variable("a"), "a"
	for range 7 {
		e = of(api.Mul, e, e)
		operand = "(" + operand + " * " + operand + ")"
	}
	e = of(api.Neg, e)
	if n := tree.Count(around(by(e))); n != api.MaxExprs {
		t.Fatalf("%d parts, want %d", n, api.MaxExprs)
	}
	checkExpr(t, e, "-"+operand)
}
