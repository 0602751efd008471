package show_test

import (
	"math"
	"reflect"
	"strings"
	"testing"

	"pendulum/api"
	"pendulum/show"
	"pendulum/tree"
)

// texts are the texts of a node and of all that it consists of.
func texts(n api.Node) []string {
	list := []string{show.Node(n)}
	for _, l := range [][]api.Decl{n.In, n.Out, n.Local} {
		for _, d := range l {
			list = append(list, show.Decl(d))
		}
	}
	for _, q := range n.Eqs {
		list = append(list, show.Equation(q), show.Expr(q.Expr))
		for e := range tree.Parts(q.Args...) {
			list = append(list, show.Expr(e))
		}
	}
	return list
}

// TestUnchanged: the arguments, and what is in the memory behind their lists, are as before.
func TestUnchanged(t *testing.T) {
	n := copyOf(sample(), 3)
	before := whole(n)
	want := texts(sample())
	for range 3 {
		if got := texts(n); !reflect.DeepEqual(got, want) {
			t.Errorf("texts = %q, want %q", got, want)
		}
		if !reflect.DeepEqual(whole(n), before) {
			t.Fatalf("the node has changed, or the memory behind its lists: %v, before: %v", whole(n), before)
		}
	}
	if !reflect.DeepEqual(n, sample()) {
		t.Error("the node has changed")
	}
}

// TestSeveralTimes: a text hangs on the argument alone, not on the calls before.
func TestSeveralTimes(t *testing.T) {
	var nodes []api.Node
	var want [][]string
	for seed := range int64(50) {
		n := byChance(seed).node()
		nodes, want = append(nodes, n), append(want, texts(n))
	}
	for i := len(nodes) - 1; i >= 0; i-- {
		for range 2 {
			if got := texts(tree.Clone(nodes[i])); !reflect.DeepEqual(got, want[i]) {
				t.Errorf("texts = %q, want %q", got, want[i])
			}
		}
	}
}

// TestNotKept: what becomes of an argument after the call does not change the text.
func TestNotKept(t *testing.T) {
	n := sample()
	got := texts(n)
	changeAll(&n, func(_ string, v reflect.Value) {
		if v.Kind() == reflect.String {
			v.SetString("other")
		}
	})
	if want := texts(sample()); !reflect.DeepEqual(got, want) {
		t.Errorf("texts = %q, want %q", got, want)
	}
}

func TestNilAndEmpty(t *testing.T) {
	nodes := []api.Node{sample(), around(by(variable("a"))), around(call("x", "f", ""))}
	for _, n := range nodes {
		empty := copyOf(n, 0)
		changeAll(&empty, func(_ string, v reflect.Value) {
			if v.Kind() == reflect.Slice && v.Len() == 0 {
				v.Set(reflect.MakeSlice(v.Type(), 0, 2))
			}
		})
		if got, want := texts(empty), texts(plain(n)); !reflect.DeepEqual(got, want) {
			t.Errorf("with empty lists: texts = %q, with nil: %q", got, want)
		}
	}
}

func TestPositionsAreNotTold(t *testing.T) {
	for _, pos := range []int{1, -1, 77, math.MaxInt, math.MinInt} {
		n := sample()
		changeAll(&n, func(field string, v reflect.Value) {
			if field == "Pos" {
				v.SetInt(int64(pos))
			}
		})
		mustBeValid(t, n)
		if got, want := texts(n), texts(sample()); !reflect.DeepEqual(got, want) {
			t.Errorf("position %d: texts = %q, want %q", pos, got, want)
		}
	}
}

// TestWrongExpressions: what Valid refuses has any text; here only the calls have to end.
func TestWrongExpressions(t *testing.T) {
	a := variable("a")
	ops := []int{math.MinInt, -1 << 32, -26, -1, 0, 26, 27, 100, 1<<32 + 6, math.MaxInt}
	for op := range 27 {
		ops = append(ops, op)
	}
	for _, op := range ops {
		for n := range 6 {
			for _, name := range []string{"", "a", "node", "\xff", "a b", strings.Repeat("n", 1000)} {
				for _, num := range []int64{0, 1, 2, -1, math.MinInt64, math.MaxInt64} {
					e := api.Expr{Op: op, N: num, Name: name}
					for range n {
						e.L = append(e.L, a)
					}
					callAll(e)
				}
			}
		}
	}
}

// callAll calls all functions with an expression, where they take one.
func callAll(e api.Expr) {
	_ = show.Expr(e)
	_ = show.Expr(of(api.Add, e, e))
	for _, q := range []api.Equation{{Expr: e}, {Left: []string{""}, Node: "f", Expr: e, Args: []api.Expr{e, e}, Every: "!"}, {Args: []api.Expr{e}, Every: "r"}} {
		_ = show.Equation(q)
		_ = show.Node(api.Node{Eqs: []api.Equation{q, q}})
	}
}

func TestWrongDeclsAndNodes(t *testing.T) {
	_, _, _, _ = show.Node(api.Node{}), show.Expr(api.Expr{}), show.Decl(api.Decl{}), show.Equation(api.Equation{})
	for _, typ := range []int{math.MinInt, -1, 0, 3, math.MaxInt} {
		for _, name := range []string{"", "if", "\x00", "\xff\n", strings.Repeat("λ", 1000)} {
			d := decl(name, typ, on(name), off(""), on("a"), on("b"), off("not"))
			_ = show.Decl(d)
			_ = show.Node(api.Node{Name: name, In: []api.Decl{d, {}}, Out: []api.Decl{d}, Local: make([]api.Decl, 100)})
		}
	}
	for seed := range int64(2000) {
		n := byChance(seed).node()
		choose := byChance(-1 - seed)
		changeAll(&n, func(_ string, v reflect.Value) {
			if choose(4) == 0 {
				v.SetZero()
			} else if v.Kind() == reflect.Int || v.Kind() == reflect.Int64 {
				v.SetInt(v.Int() + int64(choose(9)-4))
			} else if v.Kind() == reflect.Slice && v.Len() > 0 && choose(4) == 0 {
				v.Set(reflect.Append(v, v.Index(0)))
			}
		})
		_ = texts(n)
	}
}

// TestVeryDeepExpressions: up to the levels that the document's limits tell.
func TestVeryDeepExpressions(t *testing.T) {
	for _, f := range forms() {
		for i := range arity(f.op) {
			e, _ := f.part(-1, api.Expr{}, "")
			for range 1<<16 - 2 {
				l := make([]api.Expr, arity(f.op))
				l[i] = e
				e = api.Expr{Op: f.op, N: f.n, Name: "v", L: l}
			}
			_, _ = show.Expr(e), show.Node(around(by(e)))
		}
	}
}

// TestVeryLargeNode: a node of many parts.
func TestVeryLargeNode(t *testing.T) {
	n := sample()
	for range 100000 {
		n.Local = append(n.Local, n.In...)
		n.Eqs = append(n.Eqs, n.Eqs[:4]...)
	}
	if got := show.Node(n); !strings.HasSuffix(got, "  v = h();\ntel\n") {
		t.Error("the text does not end as it should")
	}
}
