package tree_test

import (
	"reflect"
	"strings"
	"testing"

	"pendulum/api"
	"pendulum/tree"
)

func isPos(l leaf) bool { return strings.HasSuffix(l.path, ".Pos") }

func checkSame(t *testing.T, what any, a, b api.Node, want bool) {
	t.Helper()
	wholeA, wholeB := whole(a), whole(b)
	if tree.Same(a, b) != want || tree.Same(b, a) != want {
		t.Errorf("%v: Same is not %v", what, want)
	}
	if !equal(wholeA, whole(a)) || !equal(wholeB, whole(b)) {
		t.Errorf("%v: Same changes a node", what)
	}
}

// full is no valid node: each field of it, used where it stands or not, is more than its zero value.
func full() api.Node {
	e := api.Expr{Op: 4, Pos: 1, N: 5, Name: "n", L: []api.Expr{{Op: 1, Pos: 2, N: 6, Name: "m", L: []api.Expr{{Op: 9, N: 1}}}, {Op: 99}}}
	d := []api.Decl{{Pos: 3, Name: "a", Type: 1, Clocks: []api.Clock{{Name: "c", On: true}, {}}}, {Name: "b"}}
	q := api.Equation{Pos: 4, Left: []string{"x", "", "y"}, Expr: e, Node: "g", Args: []api.Expr{e, {}}, Every: "r"}
	return copyOf(api.Node{Name: "f", In: d, Out: d, Local: d, Eqs: []api.Equation{q, {}, {Left: []string{"z"}, Expr: e}}}, 0)
}

// Each number, string and bool of a node is changed, one at a time.
func TestSameComparesEachFieldButThePositions(t *testing.T) {
	seen := map[string]int{}
	for _, newNode := range []func() api.Node{sample, full} {
		n := newNode()
		for i := range leaves(&n) {
			other := newNode()
			l := leaves(&other)[i]
			seen[l.path]++
			switch l.value.Kind() {
			case reflect.String:
				l.value.SetString(l.value.String() + "1")
			case reflect.Bool:
				l.value.SetBool(!l.value.Bool())
			case reflect.Slice:
				continue
			default:
				l.value.SetInt(l.value.Int() + 1<<32)
			}
			checkSame(t, l.path, n, other, isPos(l))
		}
	}
	for _, path := range []string{".Name", ".In[].Type", ".Out[].Name", ".Local[].Pos", ".Local[].Clocks[].On", ".Eqs[].Pos", ".Eqs[].Left[]", ".Eqs[].Expr.N", ".Eqs[].Args[].L[].L[].Op", ".Eqs[].Every"} {
		if seen[path] == 0 {
			t.Errorf("%s was not changed", path)
		}
	}
}

// Each list of a node gets an item more, one less, none at all, or another order.
func TestSameComparesEachList(t *testing.T) {
	for _, newNode := range []func() api.Node{sample, full} {
		n := newNode()
		for i, l := range leaves(&n) {
			if l.value.Kind() != reflect.Slice {
				continue
			}
			for _, change := range changesOfLists() {
				other := newNode()
				list := leaves(&other)[i].value
				if change(list) {
					checkSame(t, l.path, n, other, false)
				}
			}
		}
	}
}

// changesOfLists report whether the list is another one then.
func changesOfLists() []func(l reflect.Value) bool {
	cut := func(l reflect.Value, n int) bool {
		other := n != l.Len()
		l.Set(l.Slice(0, n))
		return other
	}
	return []func(l reflect.Value) bool{
		func(l reflect.Value) bool { return cut(l, 0) },
		func(l reflect.Value) bool { return cut(l, max(0, l.Len()-1)) },
		func(l reflect.Value) bool { return cut(l, min(1, l.Len())) },
		func(l reflect.Value) bool {
			l.Set(reflect.Append(l, reflect.Zero(l.Type().Elem())))
			return true
		},
		func(l reflect.Value) bool {
			if l.Len() == 0 {
				return false
			}
			l.Set(reflect.Append(l, l.Index(0)))
			return true
		},
		func(l reflect.Value) bool {
			if l.Len() < 2 || reflect.DeepEqual(l.Index(0).Interface(), l.Index(1).Interface()) {
				return false
			}
			reflect.Swapper(l.Interface())(0, 1)
			return true
		},
	}
}

func TestSameTellsTheListsApart(t *testing.T) {
	d := []api.Decl{{Name: "a", Type: 1}}
	list := []api.Node{{}, {In: d}, {Out: d}, {Local: d}, {In: d, Out: d}, {In: d, Local: d}, {Out: d, Local: d}, {In: append(d, d...)}, {Eqs: make([]api.Equation, 1)}, {Eqs: make([]api.Equation, 2)}}
	e := []api.Expr{variable("a")}
	for _, q := range []api.Equation{{Expr: e[0]}, {Args: e}, {Expr: api.Expr{L: e}}, {Left: []string{"a"}}, {Node: "a"}, {Every: "a"}, {Left: []string{"a", ""}}, {Left: []string{""}}, {Args: make([]api.Expr, 1)}, {Expr: of(4, of(4, e...))}, {Expr: of(4, e[0], e[0])}, {Expr: of(4, of(4), e[0])}} {
		list = append(list, api.Node{Eqs: []api.Equation{q}})
	}
	for i, a := range list {
		for j, b := range list {
			checkSame(t, []int{i, j}, a, b, i == j)
		}
	}
}

func TestSameOfEqualNodes(t *testing.T) {
	for _, newNode := range []func() api.Node{sample, full, func() api.Node { return api.Node{} }} {
		a, b := newNode(), newNode()
		checkSame(t, "equal", a, b, true)
		checkSame(t, "itself", a, a, true)
		for i, l := range leaves(&b) {
			if isPos(l) {
				l.value.SetInt(int64(-i))
			}
		}
		checkSame(t, "other positions", a, b, true)
		checkSame(t, "more room", a, copyOf(b, 3), true)
	}
}

func TestSameOfNilAndEmptyLists(t *testing.T) {
	d, e := []api.Decl{{Name: "a"}}, of(4, variable("a"))
	a := api.Node{In: d, Eqs: []api.Equation{{Expr: e, Args: []api.Expr{e}}, {}}}
	b := copyOf(a, 0)
	for range 3 { // lists of lists
		for _, l := range leaves(&b) {
			if l.value.Kind() == reflect.Slice && l.value.Len() == 0 {
				l.value.Set(reflect.MakeSlice(l.value.Type(), 0, 2))
			}
		}
	}
	checkSame(t, "nil and empty", a, b, true)
	checkSame(t, "nil and empty", api.Node{}, api.Node{In: []api.Decl{}, Out: []api.Decl{}, Local: []api.Decl{}, Eqs: []api.Equation{}}, true)
}

func TestClone(t *testing.T) {
	for i, n := range []api.Node{{}, sample(), full(), copyOf(full(), 2), ofExpr(chain(60)), countOf(50, 50, 3), {In: []api.Decl{}, Eqs: []api.Equation{{Left: []string{}}}}} {
		want, before := copyOf(n, 0), whole(n)
		c := tree.Clone(n)
		if !equal(c, n) {
			t.Errorf("%d: %v, want %v", i, c, n)
		}
		checkSame(t, i, n, c, true)
		second := tree.Clone(n)
		apart(t, "Clone", n, c, second, tree.Clone(c))
		scribble(c)
		if !equal(whole(n), before) || !equal(second, want) {
			t.Errorf("%d: writing to a clone changes others", i)
		}
		scribble(n)
		if !equal(second, want) {
			t.Errorf("%d: writing to the node changes a clone", i)
		}
	}
}

// Writing to one field at a time shows at which depth a list would be shared.
func TestCloneIsIndependentInEachField(t *testing.T) {
	whole := full()
	for i, l := range leaves(&whole) {
		other := full()
		leaves(&other)[i].value.SetZero()
		n := full()
		c := tree.Clone(n)
		leaves(&c)[i].value.SetZero()
		if !equal(n, full()) || !equal(c, other) {
			t.Errorf("%s: writing to the clone", l.path)
		}
		c = tree.Clone(n)
		leaves(&n)[i].value.SetZero()
		if !equal(c, full()) || !equal(n, other) {
			t.Errorf("%s: writing to the node", l.path)
		}
	}
}

func TestAppendToAClone(t *testing.T) {
	n := copyOf(full(), 4)
	c, d := tree.Clone(n), tree.Clone(n)
	c.In = append(c.In, api.Decl{Name: "new"})
	c.In[0].Clocks = append(c.In[0].Clocks, api.Clock{Name: "new"})
	c.Eqs[0].Left = append(c.Eqs[0].Left, "new")
	c.Eqs[0].Args = append(c.Eqs[0].Args, variable("new"))
	c.Eqs[0].Expr.L[0].L = append(c.Eqs[0].Expr.L[0].L, variable("new"))
	if !equal(whole(n), whole(copyOf(full(), 4))) || !equal(d, full()) {
		t.Error("an append changes others")
	}
	if len(c.In) != 3 || !equal(c.In[:2], append(d.In[:0:0], c.In[0], d.In[1])) {
		t.Error(c.In)
	}
}
