package parse_test

import (
	"math"
	"math/rand"
	"slices"
	"strconv"
	"strings"
	"testing"
	"unicode/utf8"

	"pendulum/api"
	"pendulum/lex"
	"pendulum/parse"
	"pendulum/show"
	"pendulum/tree"
)

// chooser chooses one of 0 to n - 1.
type chooser func(n int) int

func byChance(seed int64) chooser {
	return rand.New(rand.NewSource(seed)).Intn
}

// byBytes chooses by one byte after the other, and behind them the least.
func byBytes(b []byte) chooser {
	return func(n int) int {
		if len(b) == 0 {
			return 0
		}
		choice := int(b[0]) % n
		b = b[1:]
		return choice
	}
}

func one[T any](choose chooser, list []T) T { return list[choose(len(list))] }

func several[T any](choose chooser, most int, item func() T) []T {
	var list []T
	for range choose(most + 1) {
		list = append(list, item())
	}
	return list
}

func (choose chooser) name() string {
	return one(choose, []string{"a", "b", "z", "λ", "x1", "y_", "ω_9", "nota", "intx", strings.Repeat("n", api.MaxName), strings.Repeat("λ", api.MaxName/2)})
}

// expr is a valid part, whose operands are valid down to a depth.
func (choose chooser) expr(depth int) api.Expr {
	op := 1 + choose(25)
	if depth == 1 {
		op = 1 + choose(3)
	}
	e := api.Expr{Op: op}
	switch op {
	case api.Int:
		e.N = one(choose, []int64{0, 1, 10, 42, math.MaxInt32 + 1, math.MaxInt64 - 1, math.MaxInt64})
	case api.Bool:
		e.N = int64(choose(2))
	case api.Var, api.Merge:
		e.Name = choose.name()
	case api.When:
		e.N, e.Name = int64(choose(2)), choose.name()
	}
	for range arity(op) {
		e.L = append(e.L, choose.expr(depth-1))
	}
	return e
}

// arity is the number of operands of each Op from 1 to 25, as the remarks in package api tell.
func arity(op int) int {
	return int("0001122222222222222322112"[op-1] - '0')
}

func (choose chooser) clock() api.Clock {
	return api.Clock{Name: choose.name(), On: choose(2) == 1}
}

func (choose chooser) decl(clocks int) api.Decl {
	return api.Decl{Name: choose.name(), Type: 1 + choose(2), Clocks: several(choose, clocks, choose.clock)}
}

func (choose chooser) equation() api.Equation {
	q := api.Equation{Left: []string{choose.name()}}
	if choose(2) == 0 {
		q.Expr = choose.expr(1 + choose(5))
		return q
	}
	q.Left = append(q.Left, several(choose, 2, choose.name)...)
	q.Node = choose.name()
	q.Args = several(choose, 3, func() api.Expr { return choose.expr(1 + choose(4)) })
	if choose(2) == 0 {
		q.Every = choose.name()
	}
	return q
}

// node is a valid one, but for its size.
func (choose chooser) node() api.Node {
	port := func() api.Decl { return choose.decl(0) }
	return api.Node{
		Name: choose.name(), In: several(choose, 4, port), Out: append(several(choose, 2, port), port()),
		Local: several(choose, 4, func() api.Decl { return choose.decl(2 * choose(3)) }),
		Eqs:   append(several(choose, 3, choose.equation), choose.equation()),
	}
}

// writer writes the tokens of a node, or of an expression, with blanks, comments, groups and parentheses by chance where there may be some, and notes the positions.
type writer struct {
	choose chooser
	text   strings.Builder
	last   string
}

// put writes a token, and returns its position.
func (w *writer) put(token string) int {
	gap := one(w.choose, []string{"", "", "", " ", " ", "  ", "\n", "\t\n", " -- λ\n", " --\n", "\n-- if a then\n "})
	if gap == "" && together(w.last, token) {
		gap = " "
	}
	w.text.WriteString(gap)
	pos := utf8.RuneCountInString(w.text.String())
	w.text.WriteString(token)
	w.last = token
	return pos
}

// together reports whether two texts of tokens, one behind the other, are other tokens.
func together(a, b string) bool {
	list, err := lex.All(a + b)
	return a != "" && (err != nil || len(list) != 3 || list[0].Text != a)
}

func (w *writer) puts(tokens ...string) {
	for _, s := range tokens {
		w.put(s)
	}
}

// levelOf is how much the sign of a part binds: as in the model, and more for a when, and for what has no operands beside a sign.
func levelOf(op int) int {
	for _, x := range infixes() {
		if x.op == op {
			return x.level + 1
		}
	}
	switch op {
	case api.If:
		return 0
	case api.Neg, api.Not, api.Pre:
		return prefixLevel
	case api.When:
		return whenLevel
	}
	return whenLevel + 1
}

const whenLevel = prefixLevel + 1

// expr writes an expression where all that binds less than a level needs parentheses. An if needs some if no expression begins there, or if something stands behind that it would take in.
func (w *writer) expr(e api.Expr, level int, begins, last bool) api.Expr {
	bare := levelOf(e.Op) >= level
	if e.Op == api.If {
		bare = begins && last
	}
	if !bare || w.choose(8) == 0 {
		w.put("(")
		e = w.expr(e, 0, true, true)
		w.put(")")
		return e
	}
	e.L = slices.Clone(e.L)
	operand := func(i, level int, begins, last bool) {
		e.L[i] = w.expr(e.L[i], level, begins, last)
	}
	own := levelOf(e.Op)
	switch e.Op {
	case api.Int:
		e.Pos = w.put(strconv.FormatInt(e.N, 10))
	case api.Bool:
		e.Pos = w.put(strconv.FormatBool(e.N == 1))
	case api.Var:
		e.Pos = w.put(e.Name)
	case api.Neg, api.Not, api.Pre:
		e.Pos = w.put(map[int]string{api.Neg: "-", api.Not: "not", api.Pre: "pre"}[e.Op])
		operand(0, own, false, last)
	case api.When:
		operand(0, own, false, false)
		e.Pos = w.put("when")
		w.clock(e.Name, e.N == 1)
	case api.Merge:
		e.Pos = w.put("merge")
		w.puts("(", e.Name, ",")
		operand(0, 0, true, true)
		w.put(",")
		operand(1, 0, true, true)
		w.put(")")
	case api.If:
		e.Pos = w.put("if")
		operand(0, 0, true, true)
		w.put("then")
		operand(1, 0, true, true)
		w.put("else")
		operand(2, 0, true, true)
	default:
		left, right, begins := own, own+1, false
		switch own {
		case arrowLevel, fbyLevel:
			left, right, begins = own+1, own, true
		case comparisonLevel:
			left = own + 1
		}
		operand(0, left, false, false)
		e.Pos = w.put(infixes()[slices.IndexFunc(infixes(), func(x operator) bool { return x.op == e.Op })].text)
		operand(1, right, begins, last)
	}
	return e
}

func (w *writer) clock(name string, on bool) {
	if !on {
		w.put("not")
	}
	w.put(name)
}

// decls writes declarations; those that may be in one group are in one by chance.
func (w *writer) decls(list []api.Decl) []api.Decl {
	list = slices.Clone(list)
	for i := range list {
		list[i].Pos = w.put(list[i].Name)
		more := i+1 < len(list)
		if more && list[i].Type == list[i+1].Type && slices.Equal(list[i].Clocks, list[i+1].Clocks) && w.choose(3) > 0 {
			w.put(",")
			continue
		}
		w.puts(":", map[int]string{1: "int", 2: "bool"}[list[i].Type])
		for _, c := range list[i].Clocks {
			w.put("when")
			w.clock(c.Name, c.On)
		}
		if more {
			w.put(";")
		}
	}
	return list
}

func (w *writer) equation(q api.Equation) api.Equation {
	q.Pos = w.put(q.Left[0])
	for _, s := range q.Left[1:] {
		w.puts(",", s)
	}
	w.put("=")
	if q.Node == "" {
		q.Expr = w.expr(q.Expr, 0, true, true)
		return q
	}
	w.puts(q.Node, "(")
	q.Args = slices.Clone(q.Args)
	for i := range q.Args {
		if i > 0 {
			w.put(",")
		}
		q.Args[i] = w.expr(q.Args[i], 0, true, true)
	}
	w.put(")")
	if q.Every != "" {
		w.puts("every", q.Every)
	}
	return q
}

func (w *writer) node(n api.Node) api.Node {
	w.puts("node", n.Name, "(")
	n.In = w.decls(n.In)
	w.puts(")", "returns", "(")
	n.Out = w.decls(n.Out)
	w.puts(")", ";")
	if len(n.Local) > 0 {
		w.put("var")
		n.Local = w.decls(n.Local)
		w.put(";")
	}
	w.put("let")
	n.Eqs = slices.Clone(n.Eqs)
	for i := range n.Eqs {
		n.Eqs[i] = w.equation(n.Eqs[i])
		w.put(";")
	}
	w.put("tel")
	return n
}

// TestWrittenExpressions: random trees, with as few parentheses as it needs and some more, come back with all their positions.
func TestWrittenExpressions(t *testing.T) {
	for seed := range int64(20000) {
		w := writer{choose: byChance(seed)}
		want := w.expr(w.choose.expr(1+w.choose(6)), 0, true, true)
		s := w.text.String()
		e, err := parse.Expr(s)
		if len(s) > api.MaxText {
			continue
		}
		if err != nil || !equal(e, want) {
			t.Fatalf("Expr(%q) = %v, %v, want %v", s, e, err, want)
		}
		compareExpr(t, s)
	}
}

func TestWrittenNodes(t *testing.T) {
	valid := 0
	for seed := range int64(5000) {
		w := writer{choose: byChance(seed)}
		want := w.node(w.choose.node())
		s := w.text.String()
		compareNode(t, s)
		if len(s) > api.MaxText || tree.Valid(want) != nil {
			continue
		}
		valid++
		if n, err := parse.Node(s); err != nil || !equal(n, want) {
			t.Fatalf("Node(%q) = %v, %v, want %v", s, n, err, want)
		}
	}
	if valid < 3000 {
		t.Errorf("only %d of the nodes are valid", valid)
	}
}

// checkReadBack checks that a valid node whose text is short enough is the one that its text is parsed as.
func checkReadBack(t *testing.T, n api.Node) bool {
	t.Helper()
	s := show.Node(n)
	if tree.Valid(n) != nil || len(s) > api.MaxText {
		return false
	}
	again, err := parse.Node(s)
	if err != nil || !tree.Same(n, again) {
		t.Fatalf("Node(%q) = %v, %v, want %v", s, again, err, n)
	}
	return true
}

func TestReadBack(t *testing.T) {
	checked := 0
	for seed := range int64(5000) {
		if checkReadBack(t, byChance(seed).node()) {
			checked++
		}
	}
	if checked < 3000 {
		t.Errorf("only %d nodes are checked", checked)
	}
}

// TestReadBackAtTheLimits: as deep, and with as many variables and parts, as a valid node may be.
func TestReadBackAtTheLimits(t *testing.T) {
	around := func(q api.Equation) api.Node {
		return api.Node{Name: "f", Out: []api.Decl{{Name: "x", Type: api.TInt}}, Eqs: []api.Equation{q}}
	}
	a := api.Expr{Op: api.Var, Name: "a"}
	for op := api.Neg; op <= api.Merge; op++ {
		for place := range arity(op) {
			e := a
			for tree.Depth(e) < api.MaxNest {
				outer := api.Expr{Op: op, L: slices.Repeat([]api.Expr{a}, arity(op))}
				if op == api.When || op == api.Merge {
					outer.Name = "c"
				}
				outer.L[place] = e
				e = outer
			}
			for _, q := range []api.Equation{{Left: []string{"x"}, Expr: e}, {Left: []string{"x", "y"}, Node: "g", Args: []api.Expr{a, e}, Every: "r"}} {
				if !checkReadBack(t, around(q)) {
					t.Errorf("%v is not valid, or its text too long", q)
				}
			}
		}
	}
	n := around(api.Equation{Left: []string{"x"}, Node: "g", Args: slices.Repeat([]api.Expr{a}, api.MaxExprs)})
	clocks := []api.Clock{{Name: "c"}, {Name: "d", On: true}, {Name: "c", On: true}, {Name: "c"}}
	n.Local = slices.Repeat([]api.Decl{{Name: "y", Type: api.TBool, Clocks: clocks}}, api.MaxVars-1)
	if !checkReadBack(t, n) {
		t.Error("the greatest node is not valid, or its text too long")
	}
	n.In, n.Local = slices.Repeat([]api.Decl{{Name: "y", Type: api.TBool}}, api.MaxVars-1), nil
	if !checkReadBack(t, n) {
		t.Error("the node with the most inputs is not valid, or its text too long")
	}
}

// TestTextsOfAllThatIsParsed: what Node answers is valid, and is read back from its text.
func TestTextsOfAllThatIsParsed(t *testing.T) {
	for _, s := range []string{sample, equation("x = 1"), equation("x, y = g(a -> b, if a then b else c) every r")} {
		if n := mustNode(t, s); !checkReadBack(t, n) {
			t.Errorf("Node(%q) = %v", s, n)
		}
	}
}
