package tree_test

import (
	"slices"
	"testing"

	"pendulum/api"
	"pendulum/tree"
)

func names(l []api.Decl) []string {
	var list []string
	for _, d := range l {
		list = append(list, d.Name)
	}
	return list
}

func TestVars(t *testing.T) {
	n := sample()
	want := append(append(append([]api.Decl{}, n.In...), n.Out...), n.Local...)
	if got := tree.Vars(n); !equal(got, want) || !slices.Equal(names(got), []string{"a", "c", "x", "y", "z", "w", "v"}) {
		t.Errorf("%v, want %v", got, want)
	}
	for i, x := range []struct {
		n    api.Node
		want []api.Decl
	}{
		{api.Node{}, nil},
		{api.Node{In: []api.Decl{}, Out: []api.Decl{}, Local: []api.Decl{}}, nil},
		{api.Node{Name: "f", Eqs: n.Eqs}, nil},
		{api.Node{In: n.In}, n.In},
		{api.Node{Out: n.Out}, n.Out},
		{api.Node{Local: n.Local}, n.Local},
		{api.Node{Local: n.In, Out: n.Local, In: n.Out}, slices.Concat(n.Out, n.Local, n.In)},
		{api.Node{In: n.In, Out: n.In}, slices.Concat(n.In, n.In)},
		{api.Node{In: make([]api.Decl, 3), Local: []api.Decl{{Type: 99, Pos: -1}}}, append(make([]api.Decl, 3), api.Decl{Type: 99, Pos: -1})},
		{api.Node{In: make([]api.Decl, 300), Out: make([]api.Decl, 300)}, make([]api.Decl, 600)},
	} {
		if got := tree.Vars(x.n); !equal(got, x.want) {
			t.Errorf("%d: %v, want %v", i, got, x.want)
		}
	}
}

func TestVarsAreNew(t *testing.T) {
	for _, newNode := range []func() api.Node{sample, full, func() api.Node { return copyOf(full(), 5) }, func() api.Node { return api.Node{Local: sample().Local} }} {
		n := newNode()
		first, second := tree.Vars(n), tree.Vars(n)
		apart(t, "Vars", n, first, second)
		_ = append(first, api.Decl{Name: "new"})
		_ = append(first[0].Clocks, api.Clock{Name: "new"})
		scribble(first)
		if !equal(whole(n), whole(newNode())) || !equal(second, tree.Vars(newNode())) {
			t.Error("writing to the variables changes others")
		}
	}
}

func TestFind(t *testing.T) {
	n := sample()
	for _, d := range slices.Concat(n.In, n.Out, n.Local) {
		if got, ok := tree.Find(n, d.Name); !ok || !equal(got, d) {
			t.Errorf("Find(%q) = %v, %v", d.Name, got, ok)
		}
	}
	for _, name := range []string{"", "b", "d", "f", "g", "h", "A", "a ", "aa", "x1", "if", "\xff"} {
		if got, ok := tree.Find(n, name); ok || !equal(got, api.Decl{}) {
			t.Errorf("Find(%q) = %v, %v", name, got, ok)
		}
		if got, ok := tree.Find(api.Node{Name: name}, name); ok || !equal(got, api.Decl{}) {
			t.Errorf("Find(%q) of a node without variables = %v, %v", name, got, ok)
		}
	}
}

func TestFindOfANameThatStandsTwice(t *testing.T) {
	list := func(pos ...int) []api.Decl {
		var l []api.Decl
		for _, p := range pos {
			l = append(l, api.Decl{Pos: p, Name: "o"}, api.Decl{Pos: p, Name: "x", Clocks: []api.Clock{{Name: "c", On: p == 1}}})
		}
		return l
	}
	for i, n := range []api.Node{
		{In: list(1, 2)}, {Out: list(1, 2)}, {Local: list(1, 2)}, {In: list(1), Out: list(2)}, {In: list(1), Local: list(2)}, {Out: list(1), Local: list(2)},
		{In: list(1, 3), Out: list(4), Local: list(0, -1)}, {Local: list(1, 0, 0)},
	} {
		want := api.Decl{Pos: 1, Name: "x", Clocks: []api.Clock{{Name: "c", On: true}}}
		if got, ok := tree.Find(n, "x"); !ok || !equal(got, want) {
			t.Errorf("%d: %v, %v", i, got, ok)
		}
	}
	n := api.Node{Local: []api.Decl{{Name: "a"}, {Pos: 2}, {Pos: 3}}}
	if got, ok := tree.Find(n, ""); !ok || got.Pos != 2 {
		t.Errorf("a variable without a name: %v, %v", got, ok)
	}
}

func TestFoundVariableIsNew(t *testing.T) {
	for _, newNode := range []func() api.Node{sample, func() api.Node { return copyOf(sample(), 3) }} {
		n := newNode()
		first, _ := tree.Find(n, "w")
		second, _ := tree.Find(n, "w")
		apart(t, "Find", n, first, second)
		_ = append(first.Clocks, api.Clock{Name: "new"})
		scribble(first)
		if !equal(whole(n), whole(newNode())) || !equal(second, sample().Local[1]) {
			t.Error("writing to the variable changes others")
		}
	}
}
