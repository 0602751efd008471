package scope_test

import (
	"slices"
	"strconv"
	"testing"

	"pendulum/api"
	"pendulum/scope"
)

func TestGives(t *testing.T) {
	n := mustNode(t, "node f(a: int; c: bool) returns (x, y: int); var z, w, v: int; let y = a; z, x, w = g(y, y) every c; v = h() every a; tel")
	for name, want := range map[string]int{
		"y": 0, "z": 1, "x": 1, "w": 1, "v": 2,
		"a": none, "c": none, "q": none, "f": none, "g": none, "h": none, "": none, "zz": none, "Z": none, "z, x": none, "1": none,
	} {
		checkGives(t, n, name, want)
	}
}

func TestGivesOfNoEquations(t *testing.T) {
	for _, n := range []api.Node{{}, {Name: "x", Out: []api.Decl{{Name: "x"}}}, {Eqs: []api.Equation{{}, {Expr: variable("x")}, {Node: "x", Every: "x"}}}} {
		checkGives(t, n, "x", none)
		checkGives(t, n, "", none)
	}
}

// TestGivesTheFirst: also of a node that Check refuses, whatever the name is.
func TestGivesTheFirst(t *testing.T) {
	eq := func(left ...string) api.Equation { return api.Equation{Left: left} }
	n := api.Node{
		In:  []api.Decl{{Name: "a"}},
		Eqs: []api.Equation{eq("x"), eq(), eq("y", "x", "y"), eq("z", "y", "a"), eq("a"), eq("z", "if", ""), eq("€\xff", "", "if"), eq("w")},
	}
	for name, want := range map[string]int{"x": 0, "y": 2, "z": 3, "a": 3, "if": 5, "": 5, "€\xff": 6, "w": 7, "€": none, "q": none} {
		checkGives(t, n, name, want)
	}
}

// TestGivesOfEach: in each place of each Left.
func TestGivesOfEach(t *testing.T) {
	var n api.Node
	name := func(i, j int) string { return "v" + strconv.Itoa(i) + "_" + strconv.Itoa(j) }
	for i := range 8 {
		var q api.Equation
		for j := range 8 {
			q.Left = append(q.Left, name(i, j))
		}
		n.Eqs = append(n.Eqs, q)
	}
	for i := range 8 {
		for j := range 8 {
			checkGives(t, n, name(i, j), i)
		}
	}
	checkGives(t, n, name(8, 0), none)
	checkGives(t, n, name(0, 8), none)
}

func TestCalls(t *testing.T) {
	for s, want := range map[string][]string{
		"x = 1; y = 2":                  nil,
		"x = g; y = a when h":           nil,
		"x = g(); y = 2":                {"g"},
		"x = 1; y = g(a) every h":       {"g"},
		"x, y = g(h)":                   {"g"},
		"x = g(); y = g()":              {"g"},
		"x = g(); y = h()":              {"g", "h"},
		"x = h(); y = g()":              {"g", "h"},
		"x = h(); y = g(); z = h()":     {"g", "h"},
		"x = h(); y = h(); z = g()":     {"g", "h"},
		"x = g(); y = h(); z = g()":     {"g", "h"},
		"x = f(); y = x(); z = a":       {"f", "x"},
		"x = λ(); y = z(); z = gg()":    {"gg", "z", "λ"},
		"x = ab(); y = a1(); z = a()":   {"a", "a1", "ab"},
		"x = a_(); y = a(); z = a1()":   {"a", "a1", "a_"},
		"x = g1(); y = g10(); z = g2()": {"g1", "g10", "g2"},
	} {
		checkCalls(t, mustNode(t, "node f(a, g, h: int) returns (x, y, z: int); let "+s+"; tel"), want)
	}
}

func checkCalls(t *testing.T, n api.Node, want []string) {
	t.Helper()
	for range 2 {
		if got := scope.Calls(n); !slices.Equal(got, want) {
			t.Errorf("Calls(%v) = %q, want %q", n, got, want)
		}
	}
}

// TestCallsInAnyOrder: all orders of four equations, two of them with the same node.
func TestCallsInAnyOrder(t *testing.T) {
	names := []string{"b", "", "c", "b", "a"}
	var orders func(picked []api.Equation, left []string)
	count := 0
	orders = func(picked []api.Equation, left []string) {
		if len(left) == 0 {
			count++
			checkCalls(t, api.Node{Eqs: picked}, []string{"a", "b", "c"})
			return
		}
		for i, name := range left {
			orders(append(slices.Clone(picked), api.Equation{Node: name}), slices.Delete(slices.Clone(left), i, i+1))
		}
	}
	orders(nil, names)
	if count != 120 {
		t.Errorf("%d orders", count)
	}
}

// TestCallsOfOtherNodes: also of a node that Check refuses, whatever the names are.
func TestCallsOfOtherNodes(t *testing.T) {
	checkCalls(t, api.Node{}, nil)
	checkCalls(t, api.Node{Eqs: make([]api.Equation, 3)}, nil)
	checkCalls(t, api.Node{Name: "f", In: []api.Decl{{Name: "g"}}, Eqs: []api.Equation{{Every: "h", Left: []string{"i"}, Expr: variable("j"), Args: []api.Expr{variable("k")}}}}, nil)
	checkCalls(t, api.Node{Eqs: []api.Equation{{Node: "\xff"}, {Node: "if"}, {Node: "€"}, {Node: " "}, {Node: "if"}, {Node: "A"}, {Node: "\xff"}, {Node: "aa"}, {Node: "a"}, {Node: "a\x00"}}}, []string{" ", "A", "a", "a\x00", "aa", "if", "€", "\xff"})
	many := api.Node{}
	for i := range 1 << 16 {
		many.Eqs = append(many.Eqs, api.Equation{Node: "g" + strconv.Itoa(i*7919%100)})
	}
	var want []string
	for i := range 100 {
		want = append(want, "g"+strconv.Itoa(i))
	}
	slices.Sort(want)
	checkCalls(t, many, want)
}
