package tree_test

import (
	"iter"
	"slices"
	"sync"
	"testing"

	"pendulum/api"
	"pendulum/tree"
)

// partsOf are the parts of l in their order, by a stack of what is still to come.
func partsOf(l ...api.Expr) []api.Expr {
	var list []api.Expr
	ahead := slices.Clone(l)
	for len(ahead) > 0 {
		e := ahead[0]
		list = append(list, e)
		ahead = append(slices.Clone(e.L), ahead[1:]...)
	}
	return list
}

// collect is what a loop gets that ends behind n parts (below 0: it does not end early).
func collect(each iter.Seq[api.Expr], n int) []api.Expr {
	var list []api.Expr
	for e := range each {
		list = append(list, e)
		if len(list) == n {
			break
		}
	}
	return list
}

// forests are lists of expressions.
func forests() [][]api.Expr {
	wide := of(api.Add, of(api.Add, number(1), number(2)), of(api.If, of(api.Pre, number(3)), of(api.Fby, number(4), number(5)), number(6)))
	odd := of(99, of(0), of(-1, of(0, of(0)), named(api.Int, "n", variable("a"))), of(api.Neg))
	n := sample()
	return [][]api.Expr{
		nil, {}, {{}}, {number(1)}, {number(1), number(2)}, {number(1), number(1)}, {wide}, {wide, number(9), wide}, {chain(5), wide, chain(2)}, {odd, {L: []api.Expr{}}, odd},
		{n.Eqs[0].Expr}, n.Eqs[1].Args, {n.Eqs[0].Expr, variable("q")}, make([]api.Expr, 300), full().Eqs[0].Args, {chain(60)},
	}
}

func TestParts(t *testing.T) {
	for i, l := range forests() {
		before := whole(l)
		if got, want := collect(tree.Parts(l...), -1), partsOf(l...); !equal(got, want) {
			t.Errorf("%d: %v, want %v", i, got, want)
		}
		if !equal(whole(l), before) {
			t.Errorf("%d: Parts changes its arguments", i)
		}
	}
	if got := collect(tree.Parts(), -1); len(got) != 0 {
		t.Error(got)
	}
}

func TestPartsStandBeforeTheirOperands(t *testing.T) {
	e := of(api.If, named(api.When, "a", variable("b")), of(api.Add, variable("c"), of(api.Pre, variable("d"))), named(api.Merge, "e", variable("f"), variable("g")))
	var got []string
	for p := range tree.Parts(e, variable("h"), of(api.Not, variable("i"))) {
		got = append(got, p.Name)
	}
	if want := []string{"", "a", "b", "", "c", "", "d", "e", "f", "g", "h", "", "i"}; !slices.Equal(got, want) {
		t.Errorf("%q, want %q", got, want)
	}
}

func TestPartsSeveralTimes(t *testing.T) {
	for i, l := range forests() {
		each := tree.Parts(l...)
		for range 3 {
			if got := collect(each, -1); !equal(got, partsOf(l...)) {
				t.Errorf("%d: %v", i, got)
			}
		}
	}
}

func TestLoopsThatEndEarly(t *testing.T) {
	for i, l := range forests() {
		each, want := tree.Parts(l...), partsOf(l...)
		for n := 1; n <= len(want)+1; n++ {
			if got := collect(each, n); !equal(got, want[:min(n, len(want))]) {
				t.Errorf("%d: %d of the parts: %v", i, n, got)
			}
		}
		if got := collect(each, -1); !equal(got, want) {
			t.Errorf("%d: behind loops that ended early: %v", i, got)
		}
	}
}

// A plain call of the iterator tells whether it calls its function once more behind a false.
func TestNothingIsYieldedBehindTheEnd(t *testing.T) {
	for i, l := range forests() {
		all := len(partsOf(l...))
		for stop := 1; stop <= all+1; stop++ {
			calls := 0
			tree.Parts(l...)(func(api.Expr) bool {
				calls++
				return calls != stop
			})
			if calls != min(stop, all) {
				t.Errorf("%d: %d calls, want %d", i, calls, min(stop, all))
			}
		}
	}
}

func TestLoopsWithinOneAnother(t *testing.T) {
	for i, l := range forests() {
		if len(l) > 100 {
			continue
		}
		each, want := tree.Parts(l...), partsOf(l...)
		n := 0
		for e := range each {
			if !equal(e, want[n]) {
				t.Errorf("%d: outer part %d: %v", i, n, e)
			}
			n++
			if got := collect(each, n); !equal(got, want[:n]) {
				t.Errorf("%d: inner loop that ends early: %v", i, got)
			}
			if got := collect(each, -1); !equal(got, want) {
				t.Errorf("%d: inner loop: %v", i, got)
			}
			if got, of := collect(tree.Parts(e), -1), partsOf(want[n-1]); !equal(got, of) {
				t.Errorf("%d: parts of a part: %v, want %v", i, got, of)
			}
		}
		if n != len(want) {
			t.Errorf("%d: %d parts, want %d", i, n, len(want))
		}
	}
}

func TestOneIteratorForManyAtOnce(t *testing.T) {
	l := full().Eqs[0].Args
	each, want := tree.Parts(l...), partsOf(l...)
	var wait sync.WaitGroup
	for range 8 {
		wait.Go(func() {
			for range 50 {
				list := collect(each, -1)
				if !equal(list, want) {
					t.Errorf("%v, want %v", list, want)
				}
				scribble(list)
			}
		})
	}
	wait.Wait()
}

func TestPartsAreNew(t *testing.T) {
	for i, l := range forests() {
		l = copyOf(l, 3)
		before, want := whole(l), copyOf(partsOf(l...), 0)
		each := tree.Parts(l...)
		first := collect(each, -1)
		apart(t, "Parts", append([]any{l}, first, collect(each, -1), collect(tree.Parts(l...), -1))...)
		n := 0
		for e := range each {
			if !equal(e, want[n]) {
				t.Errorf("%d: what is written to a part shows in part %d: %v", i, n, e)
			}
			n++
			_ = append(e.L, variable("new"))
			scribble(e)
		}
		if !equal(first, want) || !equal(collect(each, -1), want) || !equal(whole(l), before) {
			t.Errorf("%d: writing to the parts changes others", i)
		}
	}
}

// The parts are those at the time of the call.
func TestPartsDoNotRetainTheirArguments(t *testing.T) {
	for i, l := range forests() {
		l, want := copyOf(l, 0), copyOf(partsOf(l...), 0)
		each := tree.Parts(l...)
		n := 0
		for e := range each {
			if !equal(e, want[n]) {
				t.Errorf("%d: part %d: %v, want %v", i, n, e, want[n])
			}
			if n++; n == 2 {
				scribble(l)
			}
		}
		scribble(l)
		if got := collect(each, -1); !equal(got, want) {
			t.Errorf("%d: %v, want %v", i, got, want)
		}
	}
}

func TestCount(t *testing.T) {
	for i, l := range forests() {
		k := len(partsOf(l...))
		before := whole(l)
		for j, x := range []struct {
			q    api.Equation
			want int
		}{
			{api.Equation{Node: "g", Args: l}, k},
			{api.Equation{Node: "g", Expr: of(api.Neg, l...), Args: l}, k},
			{api.Equation{Node: "g", Expr: of(0, l...)}, 0},
			{api.Equation{Node: "", Expr: of(0, l...)}, 1 + k},
			{api.Equation{Expr: of(api.Neg, l...)}, 1 + k},
			{api.Equation{Expr: number(1), Args: l}, 1 + k},
			{api.Equation{Expr: of(api.Neg, l...), Args: l, Every: "c"}, 1 + 2*k},
			{api.Equation{Args: l, Left: []string{"x", "y"}}, 1 + k},
			{api.Equation{Node: " ", Args: l}, k},
		} {
			for times := range 4 {
				n := api.Node{In: make([]api.Decl, 3), Eqs: slices.Repeat([]api.Equation{x.q}, times)}
				if got := tree.Count(n); got != times*x.want {
					t.Errorf("%d, %d: Count = %d, want %d", i, j, got, times*x.want)
				}
			}
		}
		if !equal(whole(l), before) {
			t.Errorf("%d: Count changes its argument", i)
		}
	}
	if tree.Count(api.Node{}) != 0 || tree.Count(sample()) != 13 {
		t.Error(tree.Count(api.Node{}), tree.Count(sample()))
	}
}

func TestDepth(t *testing.T) {
	for i, x := range []struct {
		e    api.Expr
		want int
	}{
		{api.Expr{}, 1}, {number(1), 1}, {of(api.If), 1}, {api.Expr{Op: 99, L: []api.Expr{}}, 1},
		{of(api.Neg, number(1)), 2}, {of(api.Add, number(1), variable("a")), 2}, {api.Expr{L: make([]api.Expr, 100)}, 2},
		{of(api.Add, chain(4), number(1)), 5}, {of(api.Add, number(1), chain(4)), 5}, {of(api.Add, chain(4), chain(6)), 7}, {of(api.Add, chain(6), chain(4)), 7},
		{of(api.If, chain(2), chain(9), chain(3)), 10}, {of(api.If, chain(9), chain(2), chain(3)), 10}, {of(api.If, chain(2), chain(3), chain(9)), 10},
		{of(api.Pre, chain(3)), 4}, {of(api.Fby, number(1), chain(3)), 4}, {of(0, of(0, of(-1))), 3}, {sample().Eqs[0].Expr, 4}, {full().Eqs[0].Expr, 3},
	} {
		before := whole(x.e)
		if got := tree.Depth(x.e); got != x.want {
			t.Errorf("%d: Depth = %d, want %d", i, got, x.want)
		}
		if !equal(whole(x.e), before) {
			t.Errorf("%d: Depth changes its argument", i)
		}
	}
	for depth := 1; depth < 300; depth++ {
		if got := tree.Depth(chain(depth)); got != depth {
			t.Errorf("Depth = %d, want %d", got, depth)
		}
	}
}

// The promises hold for this many levels.
func TestDeepNesting(t *testing.T) {
	const levels = 1 << 16
	e := chain(levels)
	n, m := ofExpr(e), ofExpr(chain(levels))
	if tree.Depth(e) != levels || tree.Count(n) != levels {
		t.Error(tree.Depth(e), tree.Count(n))
	}
	if c := tree.Clone(n); !tree.Same(n, c) || !tree.Same(n, m) || tree.Same(n, ofExpr(chain(levels-1))) {
		t.Error("Same or Clone")
	}
	for _, late := range []bool{false, true} {
		if got := tree.Uses(e, late); !slices.Equal(got, []string{"a"}) {
			t.Error(got)
		}
	}
	if err := tree.Valid(n); err != api.ErrMany {
		t.Error(err)
	}
	if got := collect(tree.Parts(e), 3); len(got) != 3 {
		t.Error(len(got))
	}
	if got := collect(tree.Parts(chain(1000)), -1); len(got) != 1000 || got[999].Name != "a" {
		t.Error(len(got))
	}
}
