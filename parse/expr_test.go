package parse_test

import (
	"math"
	"strconv"
	"strings"
	"testing"

	"pendulum/api"
	"pendulum/parse"
	"pendulum/show"
)

func TestExample(t *testing.T) {
	checkExpr(t, "a + b * c", "a + (b * c)")
}

func TestNumbersTruthsAndNames(t *testing.T) {
	for _, s := range []string{"0", "1", "10", "9223372036854775807", "true", "false", "a", "λ", "x_1", "nota", "whenever", strings.Repeat("n", api.MaxName), strings.Repeat("λ", api.MaxName/2)} {
		checkExpr(t, s, s)
		checkExpr(t, " \n"+s+"-- not told", s)
	}
	for s, want := range map[string]api.Expr{
		"0": {Op: api.Int}, "42": {Op: api.Int, N: 42}, "9223372036854775807": {Op: api.Int, N: math.MaxInt64},
		"false": {Op: api.Bool}, "true": {Op: api.Bool, N: 1}, "λ1": {Op: api.Var, Name: "λ1"},
	} {
		if e := mustExpr(t, s); !equal(e, want) {
			t.Errorf("Expr(%q) = %v, want %v", s, e, want)
		}
	}
}

// TestEveryPart: the fields of each kind of part, one by one.
func TestEveryPart(t *testing.T) {
	a, b, c := api.Expr{Op: 3, Name: "a"}, api.Expr{Op: 3, Name: "b"}, api.Expr{Op: 3, Name: "c"}
	at := func(e api.Expr, pos int) api.Expr {
		e.Pos = pos
		return e
	}
	for s, want := range map[string]api.Expr{
		"-a": {Op: 4, L: []api.Expr{at(a, 1)}}, "not a": {Op: 5, L: []api.Expr{at(a, 4)}}, "pre a": {Op: 23, L: []api.Expr{at(a, 4)}},
		"a when c":           {Op: 24, Pos: 2, N: 1, Name: "c", L: []api.Expr{a}},
		"a when not c":       {Op: 24, Pos: 2, Name: "c", L: []api.Expr{a}},
		"merge(c, a, b)":     {Op: 25, Name: "c", L: []api.Expr{at(a, 9), at(b, 12)}},
		"if a then b else c": {Op: 20, L: []api.Expr{at(a, 3), at(b, 10), at(c, 17)}},
	} {
		if e := mustExpr(t, s); !equal(e, want) {
			t.Errorf("Expr(%q) = %v, want %v", s, e, want)
		}
	}
	for _, x := range infixes() {
		want := api.Expr{Op: x.op, Pos: 2, L: []api.Expr{a, at(b, 3+len(x.text))}}
		if e := mustExpr(t, "a "+x.text+" b"); !equal(e, want) {
			t.Errorf("a %s b is %v, want %v", x.text, e, want)
		}
	}
}

// operator is one between two operands.
type operator struct {
	text  string
	op    int
	level int // the greater, the more it binds
}

const (
	arrows      = 0
	fbys        = 1
	comparisons = 4
)

func infixes() []operator {
	return []operator{
		{"->", 22, 0}, {"fby", 21, 1}, {"or", 12, 2}, {"xor", 13, 2}, {"and", 11, 3},
		{"=", 14, 4}, {"<>", 15, 4}, {"<", 16, 4}, {"<=", 17, 4}, {">", 18, 4}, {">=", 19, 4},
		{"+", 6, 5}, {"-", 7, 5}, {"*", 8, 6}, {"/", 9, 6}, {"mod", 10, 6},
	}
}

// TestEachOperatorBesideEachOther: which of the two binds more, and, where they bind the same, to which side.
func TestEachOperatorBesideEachOther(t *testing.T) {
	for _, x := range infixes() {
		for _, y := range infixes() {
			s := "a " + x.text + " b " + y.text + " c"
			left := "(a " + x.text + " b) " + y.text + " c"
			right := "a " + x.text + " (b " + y.text + " c)"
			switch {
			case x.level > y.level:
				checkExpr(t, s, left)
			case x.level < y.level:
				checkExpr(t, s, right)
			case x.level == comparisons:
				refuseExpr(t, s, at(api.ErrWord, len("a "+x.text+" b ")))
			case x.level == arrows, x.level == fbys:
				checkExpr(t, s, right)
			default:
				checkExpr(t, s, left)
			}
			checkExpr(t, left, left)
			checkExpr(t, right, right)
		}
	}
}

func TestChains(t *testing.T) {
	for _, x := range infixes() {
		s := strings.ReplaceAll("a ? b ? c ? d", "?", x.text)
		switch x.level {
		case comparisons:
			refuseExpr(t, s, at(api.ErrWord, len("a ? b ")+len(x.text)-1))
		case arrows, fbys:
			checkExpr(t, s, strings.ReplaceAll("a ? (b ? (c ? d))", "?", x.text))
		default:
			checkExpr(t, s, strings.ReplaceAll("((a ? b) ? c) ? d", "?", x.text))
		}
	}
	for s, want := range map[string]string{
		"a -> b fby c -> d fby e":             "a -> ((b fby c) -> (d fby e))",
		"a fby b -> c fby d":                  "(a fby b) -> (c fby d)",
		"a - b + c - d":                       "((a - b) + c) - d",
		"a / b * c mod d":                     "((a / b) * c) mod d",
		"a or b and c xor d":                  "(a or (b and c)) xor d",
		"a = b and c <> d or e":               "((a = b) and (c <> d)) or e",
		"a + b * c - d < e -> f":              "(((a + (b * c)) - d) < e) -> f",
		"a and b = c + d * -e":                "a and (b = (c + (d * (-e))))",
		"a * b + c > d and e or f fby g -> h": "((((((a * b) + c) > d) and e) or f) fby g) -> h",
		"a -> b fby c or d and e < f + g * h": "a -> (b fby (c or (d and (e < (f + (g * h))))))",
	} {
		checkExpr(t, s, want)
	}
}

// TestComparisons: at most one, but for one in parentheses, and one behind another operator that binds less.
func TestComparisons(t *testing.T) {
	signs := []string{"=", "<>", "<", "<=", ">", ">="}
	for _, x := range signs {
		for _, y := range signs {
			checkExpr(t, "(a "+x+" b) "+y+" c", "(a "+x+" b) "+y+" c")
			checkExpr(t, "a "+x+" b and c "+y+" d", "(a "+x+" b) and (c "+y+" d)")
			checkExpr(t, "a "+x+" b -> c "+y+" d", "(a "+x+" b) -> (c "+y+" d)")
			refuseExpr(t, "a "+x+" b + 1 "+y+" c", at(api.ErrWord, len("a "+x+" b + 1 ")))
			refuseExpr(t, "a "+x+" not b "+y+" c", at(api.ErrWord, len("a "+x+" not b ")))
			refuseExpr(t, "c or a "+x+" b "+y, at(api.ErrWord, len("c or a "+x+" b ")))
			refuseExpr(t, "(a "+x+" b "+y+" c)", at(api.ErrWord, len("(a "+x+" b ")))
			refuseExpr(t, "if a "+x+" b "+y+" c then d else e", at(api.ErrWord, len("if a "+x+" b ")))
		}
	}
}

func prefixes() []operator {
	return []operator{{"-", 4, 0}, {"not", 5, 0}, {"pre", 23, 0}}
}

// prefixed is the text that show has for a prefix operator of an operand.
func prefixed(x operator, operand string) string {
	if x.text == "-" {
		return "-" + operand
	}
	return x.text + " " + operand
}

func TestPrefixOperators(t *testing.T) {
	for _, x := range prefixes() {
		checkExpr(t, x.text+" a", prefixed(x, "a"))
		checkExpr(t, x.text+"(a)", prefixed(x, "a"))
		checkExpr(t, x.text+" 1", prefixed(x, "1"))
		checkExpr(t, x.text+" true", prefixed(x, "true"))
		checkExpr(t, x.text+" merge(c, a, b)", prefixed(x, "merge(c, a, b)"))
		for _, y := range prefixes() {
			inner := "(" + prefixed(y, "a") + ")"
			checkExpr(t, x.text+" "+y.text+" a", prefixed(x, inner))
			for _, z := range prefixes() {
				checkExpr(t, z.text+" "+x.text+" "+y.text+" a", prefixed(z, "("+prefixed(x, inner)+")"))
			}
		}
		for _, y := range infixes() {
			checkExpr(t, x.text+" a "+y.text+" b", "("+prefixed(x, "a")+") "+y.text+" b")
			checkExpr(t, "a "+y.text+" "+x.text+" b", "a "+y.text+" ("+prefixed(x, "b")+")")
			checkExpr(t, x.text+" (a "+y.text+" b)", prefixed(x, "(a "+y.text+" b)"))
		}
		checkExpr(t, x.text+" a when c", prefixed(x, "(a when c)"))
		checkExpr(t, x.text+" a when not c", prefixed(x, "(a when not c)"))
		checkExpr(t, "("+x.text+" a) when c", "("+prefixed(x, "a")+") when c")
		for _, more := range []string{"", " )", " ,", " then", " * a", " = a", " -> a", " when c", " :", " int", " mod 2"} {
			want := api.ErrWord
			if more == "" {
				want = api.ErrEnd
			}
			refuseExpr(t, x.text+more, at(want, len(x.text)+min(1, len(more))))
		}
	}
	checkExpr(t, "- - - a", "-(-(-a))")
	checkExpr(t, "a - - b", "a - (-b)")
	checkExpr(t, "a--b\n-c", "a - c")
}

func TestWhen(t *testing.T) {
	for s, want := range map[string]string{
		"a when c":                          "a when c",
		"a when not c":                      "a when not c",
		"a when c when d":                   "(a when c) when d",
		"a when c when not d":               "(a when c) when not d",
		"a when not c when d":               "(a when not c) when d",
		"a when not c when not d when c":    "((a when not c) when not d) when c",
		"not pre - a when c when not d":     "not (pre (-((a when c) when not d)))",
		"a * b when c":                      "a * (b when c)",
		"a when c * b":                      "(a when c) * b",
		"a -> b when c":                     "a -> (b when c)",
		"a when c -> b when not d":          "(a when c) -> (b when not d)",
		"(a -> b) when c":                   "(a -> b) when c",
		"1 when c":                          "1 when c",
		"true when not c":                   "true when not c",
		"merge(c, a, b) when d":             "merge(c, a, b) when d",
		"merge(c, a when c, b when not c)":  "merge(c, a when c, b when not c)",
		"if a when c then b else d when c":  "if (a when c) then b else (d when c)",
		"(if a then b else d) when c":       "(if a then b else d) when c",
		"a when c fby b":                    "(a when c) fby b",
		"a when c = b when not c and not e": "((a when c) = (b when not c)) and (not e)",
	} {
		checkExpr(t, s, want)
	}
	for _, x := range infixes() {
		checkExpr(t, "a "+x.text+" b when c", "a "+x.text+" (b when c)")
		checkExpr(t, "a when not c "+x.text+" b", "(a when not c) "+x.text+" b")
	}
	refuseExpr(t, "when c", at(api.ErrWord, 0))
	refuseExpr(t, "a when", at(api.ErrEnd, 6))
	refuseExpr(t, "a when not", at(api.ErrEnd, 10))
	refuseExpr(t, "a when 1", at(api.ErrWord, 7))
	refuseExpr(t, "a when true", at(api.ErrWord, 7))
	refuseExpr(t, "a when -c", at(api.ErrWord, 7))
	refuseExpr(t, "a when (c)", at(api.ErrWord, 7))
	refuseExpr(t, "a when not not c", at(api.ErrWord, 11))
	refuseExpr(t, "a when not 1", at(api.ErrWord, 11))
	refuseExpr(t, "a when when c", at(api.ErrWord, 7))
	refuseExpr(t, "a not when c", at(api.ErrWord, 2))
	refuseExpr(t, "a when c d", at(api.ErrWord, 9))
	refuseExpr(t, "a when c (d)", at(api.ErrWord, 9))
	refuseExpr(t, "a when c not d", at(api.ErrWord, 9))
}

// TestIfWhereItMayStand: ? stands for an if, and the text behind it for the tree.
func TestIfWhereItMayStand(t *testing.T) {
	const choice = "if a then b else c"
	for s, want := range map[string]string{
		"?":                  "?",
		"(?)":                "?",
		"((?))":              "?",
		"merge(d, ?, e)":     "merge(d, ?, e)",
		"merge(d, e, ?)":     "merge(d, e, ?)",
		"merge(d, ?, ?)":     "merge(d, ?, ?)",
		"if ? then d else e": "if (?) then d else e",
		"if d then ? else e": "if d then (?) else e",
		"if d then e else ?": "if d then e else (?)",
		"if ? then ? else ?": "if (?) then (?) else (?)",
		"d -> ?":             "d -> (?)",
		"d fby ?":            "d fby (?)",
		"d -> e -> ?":        "d -> (e -> (?))",
		"d fby e fby ?":      "d fby (e fby (?))",
		"d -> e fby ?":       "d -> (e fby (?))",
		"d fby e -> ?":       "(d fby e) -> (?)",
		"- d -> ?":           "(-d) -> (?)",
		"d + e fby ?":        "(d + e) fby (?)",
		"- (?)":              "-(?)",
		"d + (?)":            "d + (?)",
		"(?) -> d":           "(?) -> d",
		"(?) when d":         "(?) when d",
	} {
		checkExpr(t, strings.ReplaceAll(s, "?", choice), strings.ReplaceAll(want, "?", choice))
	}
	for _, s := range []string{"x = ?", "x = f(?)", "x = f(a, ?)", "x = f(?, ?, b) every r"} {
		compareNode(t, equation(strings.ReplaceAll(s, "?", choice)))
		mustNode(t, equation(strings.ReplaceAll(s, "?", choice)))
	}
}

func TestIfWhereItMayNotStand(t *testing.T) {
	ahead := []string{"a", "1", "(a)", "a when", "a when not", "merge", "merge(", "merge(c", "merge(c, a, b)", "if a", "if a then b", "a -> b", "pre a -> - -", "not not"}
	for _, x := range prefixes() {
		ahead = append(ahead, x.text, "("+x.text, "merge(c, "+x.text, "d -> "+x.text, "d fby "+x.text, "d and e = "+x.text)
	}
	for _, x := range infixes() {
		if x.level > fbys {
			ahead = append(ahead, "d "+x.text, "(d "+x.text, "d -> e "+x.text, "d fby e "+x.text, "if d then e "+x.text)
		}
	}
	for _, s := range ahead {
		refuseExpr(t, s+" if a then b else c", at(api.ErrWord, len(s)+1))
		refuseExpr(t, s+" if", at(api.ErrWord, len(s)+1))
	}
	for _, s := range []string{"x, y = ", "x ", "x, ", "", "x = f(a) ", "x = f(a) every ", "x = f "} {
		text := equation(s + "if a then b else c")
		refuseNode(t, text, at(api.ErrWord, strings.Index(text, "if")))
	}
}

// TestHowFarIfExtends: up to what is no part of an expression any more.
func TestHowFarIfExtends(t *testing.T) {
	for _, x := range infixes() {
		checkExpr(t, "if a then b else c "+x.text+" d", "if a then b else (c "+x.text+" d)")
		checkExpr(t, "if a "+x.text+" b then c else d", "if (a "+x.text+" b) then c else d")
		checkExpr(t, "if a then b "+x.text+" c else d", "if a then (b "+x.text+" c) else d")
		checkExpr(t, "d -> if a then b else c "+x.text+" e", "d -> (if a then b else (c "+x.text+" e))")
		checkExpr(t, "d fby if a then b else c "+x.text+" e", "d fby (if a then b else (c "+x.text+" e))")
		checkExpr(t, "(if a then b else c) "+x.text+" d", "(if a then b else c) "+x.text+" d")
	}
	for s, want := range map[string]string{
		"if a then b else c when d":                        "if a then b else (c when d)",
		"if a then if b then c else d else e":              "if a then (if b then c else d) else e",
		"if a then b else if c then d else e":              "if a then b else (if c then d else e)",
		"if if a then b else c then d else e":              "if (if a then b else c) then d else e",
		"if a then b else if c then d else e -> f":         "if a then b else (if c then d else (e -> f))",
		"if a then b -> if c then d else e else f":         "if a then (b -> (if c then d else e)) else f",
		"merge(c, if a then b else d -> e, f)":             "merge(c, if a then b else (d -> e), f)",
		"a fby if b then c else d fby e -> f":              "a fby (if b then c else ((d fby e) -> f))",
		"a -> if b then c else d = e":                      "a -> (if b then c else (d = e))",
		"if a then b else c = d and e":                     "if a then b else ((c = d) and e)",
		"if a < b then c < d else e < f":                   "if (a < b) then (c < d) else (e < f)",
		"if not a then - b else pre c":                     "if (not a) then (-b) else (pre c)",
		"a -> b fby if c then d else e -> f fby g":         "a -> (b fby (if c then d else (e -> (f fby g))))",
		"if a fby b then c fby d else e fby f":             "if (a fby b) then (c fby d) else (e fby f)",
		"if a -> b then c -> d else e -> f":                "if (a -> b) then (c -> d) else (e -> f)",
		"if a fby if b then c else d then e else f":        "if (a fby (if b then c else d)) then e else f",
		"if a -> if b then c else d -> e then f else g":    "if (a -> (if b then c else (d -> e))) then f else g",
		"merge(c, if a then b else d, if e then f else g)": "merge(c, if a then b else d, if e then f else g)",
	} {
		checkExpr(t, s, want)
	}
	refuseExpr(t, "(if a then b else c, d)", at(api.ErrWord, 19))
	refuseExpr(t, "(if a then b else c) + if d then e else f", at(api.ErrWord, 23))
	refuseExpr(t, "if a < b then c else d < e < f", at(api.ErrWord, 27))
	refuseExpr(t, "if", at(api.ErrEnd, 2))
	refuseExpr(t, "if a", at(api.ErrEnd, 4))
	refuseExpr(t, "if a then", at(api.ErrEnd, 9))
	refuseExpr(t, "if a then b", at(api.ErrEnd, 11))
	refuseExpr(t, "if a then b else", at(api.ErrEnd, 16))
	refuseExpr(t, "if then b else c", at(api.ErrWord, 3))
	refuseExpr(t, "if a else c", at(api.ErrWord, 5))
	refuseExpr(t, "if a, b else c", at(api.ErrWord, 4))
	refuseExpr(t, "if a then else c", at(api.ErrWord, 10))
	refuseExpr(t, "if a then b then c", at(api.ErrWord, 12))
	refuseExpr(t, "if a then b else c else d", at(api.ErrWord, 19))
	refuseExpr(t, "if a then b else c then d", at(api.ErrWord, 19))
	refuseExpr(t, "if (a then b else c)", at(api.ErrWord, 6))
	refuseExpr(t, "(if a) then b else c", at(api.ErrWord, 5))
	refuseExpr(t, "(if a then b) else c", at(api.ErrWord, 12))
	refuseExpr(t, "then", at(api.ErrWord, 0))
	refuseExpr(t, "else", at(api.ErrWord, 0))
}

func TestParenthesesAndMerge(t *testing.T) {
	for s, want := range map[string]string{
		"(a)":                                "a",
		"((a))":                              "a",
		"(((1)))":                            "1",
		"(a + b) * c":                        "(a + b) * c",
		"a * (b + c)":                        "a * (b + c)",
		"a - (b - c)":                        "a - (b - c)",
		"(a -> b) -> c":                      "(a -> b) -> c",
		"(a fby b) fby c":                    "(a fby b) fby c",
		"((a) + ((b)))":                      "a + b",
		"merge(c, a, b)":                     "merge(c, a, b)",
		"merge (c, (a), (b))":                "merge(c, a, b)",
		"merge(c, a -> b, b fby a)":          "merge(c, a -> b, b fby a)",
		"merge(c, merge(d, a, b), b)":        "merge(c, merge(d, a, b), b)",
		"merge(c, a, merge(d, a, b))":        "merge(c, a, merge(d, a, b))",
		"merge(c, (merge(d, (a), b)), (a))":  "merge(c, merge(d, a, b), a)",
		"(merge(c, (a + b) * 2, a))":         "merge(c, (a + b) * 2, a)",
		"merge(c, a, b) + merge(d, b, a)":    "merge(c, a, b) + merge(d, b, a)",
		"- merge(c, a, b)":                   "-merge(c, a, b)",
		"(a) when c":                         "a when c",
		"(merge(c, a, b) when d) when not e": "(merge(c, a, b) when d) when not e",
	} {
		checkExpr(t, s, want)
	}
	for s, pos := range map[string]int{
		"()": 1, "(a": 2, "(a b)": 3, "(a))": 3, ")": 0, "(a, b)": 2, "((a)": 4, "(": 1, "(a;)": 2, "a (b)": 2, "(a) (b)": 4, "(a) b": 4, "1 (b)": 2, "f(a)": 1, "a + f(a)": 5, "f()": 1,
		"merge": 5, "merge(": 6, "merge c": 6, "merge(1, a, b)": 6, "merge((c), a, b)": 6, "merge(true, a, b)": 6, "merge(not c, a, b)": 6, "merge()": 6,
		"merge(c": 7, "merge(c)": 7, "merge(c a, b)": 8, "merge(c when d, a, b)": 8, "merge(c, a)": 10, "merge(c, a": 10, "merge(c,": 8, "merge(c, )": 9, "merge(c, a,": 11, "merge(c, a, )": 12,
		"merge(c, a, b": 13, "merge(c, a, b, d)": 13, "merge(c, a, b; )": 13, "merge(c, a, b))": 14, "merge(c, , b)": 9, "merge, a": 5, "merge when c": 6, "a merge(c, a, b)": 2, "merge(c, a b)": 11,
	} {
		want := api.ErrWord
		if pos == len(s) {
			want = api.ErrEnd
		}
		refuseExpr(t, s, at(want, pos))
	}
}

// TestTokensWhereAnExpressionBegins: those that may begin one, and all others.
func TestTokensWhereAnExpressionBegins(t *testing.T) {
	begin := " a 7 true false ( - not pre if merge "
	for _, s := range allTokens() {
		for _, ahead := range []string{"", "(", "merge(c, ", "merge(c, a, ", "if ", "if a then ", "if a then b else ", "a -> ", "a fby "} {
			if !strings.Contains(begin, " "+s+" ") {
				refuseExpr(t, ahead+s, at(api.ErrWord, len(ahead)))
			}
			compareExpr(t, ahead+s)
			compareExpr(t, ahead+s+" a")
		}
		for _, ahead := range []string{"a + ", "- ", "a < ", "not pre ", "a or "} {
			if s == "if" || !strings.Contains(begin, " "+s+" ") {
				refuseExpr(t, ahead+s, at(api.ErrWord, len(ahead)))
			}
			compareExpr(t, ahead+s)
			compareExpr(t, ahead+s+" a")
		}
	}
}

// TestTokensBehindAnOperand: the operators between two, when, and nothing else where nothing is open.
func TestTokensBehindAnOperand(t *testing.T) {
	behind := " -> fby or xor and = <> < <= > >= + - * / mod when "
	for _, s := range allTokens() {
		for _, ahead := range []string{"a ", "1 ", "true ", "(a) ", "merge(c, a, b) ", "a when c ", "- a ", "a + b ", "if a then b else c ", "a -> b "} {
			if strings.Contains(behind, " "+s+" ") {
				refuseExpr(t, ahead+s, at(api.ErrEnd, len(ahead+s)))
			} else {
				refuseExpr(t, ahead+s, at(api.ErrWord, len(ahead)))
			}
		}
	}
	refuseExpr(t, "", at(api.ErrEnd, 0))
	refuseExpr(t, " \n-- a\n ", at(api.ErrEnd, 8))
	refuseExpr(t, "λ λ", at(api.ErrWord, 2))
	refuseExpr(t, "λ +  ", at(api.ErrEnd, 5))
	refuseExpr(t, "a;", at(api.ErrWord, 1))
}

// TestErrorsOfTheTokens: they come ahead of those of the syntax, wherever they stand.
func TestErrorsOfTheTokens(t *testing.T) {
	for s, want := range map[string]error{
		"a $":                   at(api.ErrRune, 2),
		") ) ) $":               at(api.ErrRune, 6),
		"a b 01":                at(api.ErrNumber, 4),
		"+ 9223372036854775808": at(api.ErrNumber, 2),
		"1a (":                  at(api.ErrNumber, 0),
		"if λ " + strings.Repeat("a", api.MaxName+1): at(api.ErrMany, 5),
		") \x00":                               at(api.ErrRune, 2),
		"a\xff":                                at(api.ErrRune, 1),
		"λ €":                                  at(api.ErrRune, 2),
		")" + strings.Repeat(" ", api.MaxText): api.ErrMany,
		strings.Repeat("(", 49) + "$":          at(api.ErrRune, 49),
		strings.Repeat("(", api.MaxText) + "$": api.ErrMany,
	} {
		refuseExpr(t, s, want)
		refuseNode(t, s, want)
	}
	checkExpr(t, "a"+strings.Repeat(" ", api.MaxText-1), "a")
}

// sums is a + a + .. with that Depth.
func sums(depth int) string { return "a" + strings.Repeat(" + a", depth-1) }

func TestDepth(t *testing.T) {
	most := api.MaxNest
	shapes := map[string]func(depth int) string{
		"sums":    sums,
		"when":    func(depth int) string { return "a" + strings.Repeat(" when c", depth-1) },
		"prefix":  func(depth int) string { return strings.Repeat("- ", depth-1) + "a" },
		"arrows":  func(depth int) string { return strings.Repeat("a -> ", depth-1) + "a" },
		"fbys":    func(depth int) string { return strings.Repeat("a fby ", depth-1) + "a" },
		"if else": func(depth int) string { return strings.Repeat("if a then b else ", depth-1) + "a" },
		"if": func(depth int) string {
			return strings.Repeat("if ", depth-1) + "a" + strings.Repeat(" then b else c", depth-1)
		},
		"merge": func(depth int) string {
			return strings.Repeat("merge(c, ", depth-1) + "a" + strings.Repeat(", b)", depth-1)
		},
		"in merge":       func(depth int) string { return "merge(c, b, " + sums(depth-1) + ")" },
		"right of many":  func(depth int) string { return "a -> (" + sums(depth-1) + ")" },
		"in parentheses": func(depth int) string { return strings.Repeat("(", most) + sums(depth) + strings.Repeat(")", most) },
	}
	for name, shape := range shapes {
		for _, depth := range []int{2, 3, most - 1, most} {
			e, err := parse.Expr(shape(depth))
			if err != nil || show.Expr(e) == "" {
				t.Errorf("%s of depth %d: %v", name, depth, err)
			}
			compareExpr(t, shape(depth))
		}
		for _, depth := range []int{most + 1, most + 2, 2 * most} {
			refuseExpr(t, shape(depth), api.ErrDeep)
			refuseNode(t, equation("x = f("+shape(depth)+")"), api.ErrDeep)
			refuseNode(t, equation("x = "+shape(depth)), api.ErrDeep)
		}
	}
	// Only the parts count, and neither their number nor what stands beside one another.
	checkExpr(t, "1"+strings.Repeat(" when c", most-1), strings.Repeat("(", most-2)+"1"+strings.Repeat(" when c)", most-2)+" when c")
	compareExpr(t, sums(most-1)+" = "+sums(most-1))
	mustExpr(t, sums(most-1)+" = "+sums(most-1))
	refuseExpr(t, sums(api.MaxText/4), api.ErrDeep)
	refuseExpr(t, sums(most+1)+" b", at(api.ErrWord, len(sums(most+1))+1))
	wide := "a"
	for range 8 {
		wide = "(" + wide + ")*(" + wide + ")"
	}
	if e := mustExpr(t, wide); strings.Count(show.Expr(e), "a") != 256 {
		t.Errorf("Expr(%q) = %v", wide, e)
	}
	refuseNode(t, equation("x = "+wide), api.ErrMany)
}

func TestManyNumbers(t *testing.T) {
	for n := range int64(200) {
		s := strconv.FormatInt(n*n*n*n*n, 10)
		checkExpr(t, s, s)
		checkExpr(t, s+"-"+s, s+" - "+s)
	}
}
