package tree_test

import (
	"slices"
	"strings"
	"testing"

	"pendulum/api"
	"pendulum/tree"
)

// checkUses takes the names that stand not only late, and those that stand nowhere else, in any order.
func checkUses(t *testing.T, what any, e api.Expr, now, later string) {
	t.Helper()
	before := whole(e)
	for _, x := range []struct {
		late bool
		want []string
	}{{false, strings.Fields(now)}, {true, strings.Fields(now + " " + later)}} {
		slices.Sort(x.want)
		if got := tree.Uses(e, x.late); !slices.Equal(got, x.want) {
			t.Errorf("%v: Uses, late %v = %q, want %q", what, x.late, got, x.want)
		}
	}
	if !equal(whole(e), before) {
		t.Errorf("%v: Uses changes its argument", what)
	}
}

func TestUsesExample(t *testing.T) {
	checkUses(t, "a fby b", of(api.Fby, variable("a"), variable("b")), "a", "b")
}

func TestUses(t *testing.T) {
	a, b, c, d := variable("a"), variable("b"), variable("c"), variable("d")
	pre := func(e api.Expr) api.Expr { return of(api.Pre, e) }
	fby := func(e, f api.Expr) api.Expr { return of(api.Fby, e, f) }
	for i, x := range []struct {
		e          api.Expr
		now, later string
	}{
		{api.Expr{}, "", ""},
		{number(7), "", ""},
		{a, "a", ""},
		{pre(a), "", "a"},
		{pre(pre(a)), "", "a"},
		{pre(of(api.Neg, a)), "", "a"},
		{of(api.Neg, pre(a)), "", "a"},
		{of(api.Add, pre(a), b), "b", "a"},
		{of(api.Add, a, pre(b)), "a", "b"},
		{of(api.Add, pre(a), a), "a", ""},
		{of(api.Add, a, pre(a)), "a", ""},
		{of(api.Arrow, a, b), "a b", ""},
		{of(api.Arrow, a, pre(b)), "a", "b"},
		{pre(of(api.Arrow, a, b)), "", "a b"},
		{fby(a, a), "a", ""},
		{fby(pre(a), b), "", "a b"},
		{fby(a, pre(b)), "a", "b"},
		{pre(fby(a, b)), "", "a b"},
		{fby(fby(a, b), c), "a", "b c"},
		{fby(a, fby(b, c)), "a", "b c"},
		{fby(fby(a, b), fby(c, d)), "a", "b c d"},
		{fby(a, of(api.Add, b, c)), "a", "b c"},
		{of(api.Add, fby(a, b), c), "a c", "b"},
		{of(api.Add, fby(a, b), b), "a b", ""},
		{of(api.Add, b, fby(a, b)), "a b", ""},
		{of(api.If, pre(a), fby(b, c), d), "b d", "a c"},
		{named(api.When, "a", b), "a b", ""},
		{named(api.When, "a", pre(b)), "a", "b"},
		{pre(named(api.When, "a", b)), "", "a b"},
		{named(api.When, "a", a), "a", ""},
		{named(api.Merge, "a", b, c), "a b c", ""},
		{named(api.Merge, "a", pre(b), fby(c, d)), "a c", "b d"},
		{fby(number(0), named(api.Merge, "a", b, c)), "", "a b c"},
		{fby(named(api.Merge, "a", b, c), number(0)), "a b c", ""},
		{fby(named(api.When, "d", number(1)), named(api.When, "c", pre(b))), "d", "b c"},
		{of(api.If, d, of(api.Add, c, of(api.Sub, b, c)), of(api.Mul, a, d)), "a b c d", ""},
		{sample().Eqs[0].Expr, "", "b x"},
	} {
		checkUses(t, i, x.e, x.now, x.later)
	}
}

func TestUsesOfEachOp(t *testing.T) {
	a, b, c := variable("a"), variable("b"), variable("c")
	for op := 1; op <= 25; op++ {
		e := of(op, []api.Expr{a, b, c}[:arity(op)]...)
		e.Name = "n"
		now, later := strings.Fields("a b c")[:arity(op)], ""
		switch op {
		case api.Pre:
			now, later = nil, "a"
		case api.Fby:
			now, later = []string{"a"}, "b"
		}
		if hasName(op) {
			now = append(now, "n")
		}
		checkUses(t, op, e, strings.Join(now, " "), later)
	}
}

func TestUsesAreInAscendingOrder(t *testing.T) {
	list := strings.Fields("z a λ b1 b_ b a1 a_ ω α y aa ab z9 b λ a")
	var l []api.Expr
	for _, name := range list {
		l = append(l, variable(name))
	}
	want := strings.Fields("a a1 a_ aa ab b b1 b_ y z z9 α λ ω")
	for range 3 {
		for _, e := range []api.Expr{of(0, l...), of(api.If, of(99, l...), of(api.Add, l[:5]...), of(api.Pre, l...))} {
			if got := tree.Uses(e, false); !slices.Equal(got, want) {
				t.Errorf("%q, want %q", got, want)
			}
		}
		slices.Reverse(l)
	}
}

// Uses is given expressions that Valid refuses, too.
func TestUsesOfOddExpressions(t *testing.T) {
	a, b, c, d := variable("a"), variable("b"), variable("c"), variable("d")
	for i, x := range []struct {
		e          api.Expr
		now, later string
	}{
		{of(api.Pre), "", ""},
		{of(api.Pre, a, b), "", "a b"},
		{of(api.Fby), "", ""},
		{of(api.Fby, a), "a", ""},
		{of(api.Fby, a, b, c, d), "a c d", "b"},
		{named(api.Var, "a", b), "a b", ""},
		{named(api.Merge, "a"), "a", ""},
		{of(99, a, of(0, b), of(-1, of(api.Pre, c))), "a b", "c"},
		{named(api.Pre, "d", a), "", "a"},
		{named(api.Fby, "d", a, b), "a", "b"},
		{named(0, "d", a), "a", ""},
		{variable("IF"), "IF", ""},
	} {
		checkUses(t, i, x.e, x.now, x.later)
	}
	if got := tree.Uses(of(api.Add, variable(""), variable("\xff")), false); !slices.Equal(got, []string{"", "\xff"}) {
		t.Errorf("%q", got)
	}
}

func TestUsesAreNew(t *testing.T) {
	e := copyOf(of(api.If, variable("b"), variable("a"), of(api.Pre, variable("c"))), 3)
	before := whole(e)
	first, second := tree.Uses(e, true), tree.Uses(e, true)
	apart(t, "Uses", e, first, second, tree.Uses(e, false))
	_ = append(first, "new")
	clear(first[:cap(first)])
	if want := []string{"a", "b", "c"}; !slices.Equal(second, want) || !slices.Equal(tree.Uses(e, true), want) || !equal(whole(e), before) {
		t.Error(second)
	}
}
