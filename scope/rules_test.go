package scope_test

import (
	"reflect"
	"slices"
	"strings"
	"sync"
	"testing"

	"pendulum/api"
	"pendulum/scope"
)

// manyNodes are good and wrong ones of all kinds.
func manyNodes(t *testing.T) []api.Node {
	list := []api.Node{{}, sample(), {Eqs: []api.Equation{{Node: "g"}, {Node: "g"}, {Left: []string{"x", "x"}}}}}
	for _, f := range faults() {
		list = append(list, with(f.do))
	}
	for seed := range int64(100) {
		choose := byChance(seed)
		n := choose.node()
		for range seed % 4 {
			choose.change(&n)
		}
		list = append(list, n)
	}
	return list
}

// answers are all that the functions answer for a node.
type answers struct {
	err   error
	gives map[string]int
	calls []string
}

func answersFor(n api.Node) answers {
	a := answers{err: scope.Check(n), gives: map[string]int{}, calls: scope.Calls(n)}
	for _, name := range append(manyNames(), "q", "", "v", "w") {
		i, ok := scope.Gives(n, name)
		if !ok {
			i = none
		}
		a.gives[name] = i
	}
	return a
}

func (a answers) same(b answers) bool {
	return reflect.DeepEqual(a.err, b.err) && reflect.DeepEqual(a.gives, b.gives) && slices.Equal(a.calls, b.calls)
}

// stretched is a value with all of its lists as long as their capacity.
func stretched[T any](value T) T {
	c := copyOf(value, 0)
	var stretch func(to, from reflect.Value)
	stretch = func(to, from reflect.Value) {
		switch from.Kind() {
		case reflect.Struct:
			for i := range from.NumField() {
				stretch(to.Field(i), from.Field(i))
			}
		case reflect.Slice:
			from = from.Slice(0, from.Cap())
			to.Set(copyValue(from, 0))
			for i := range from.Len() {
				stretch(to.Index(i), from.Index(i))
			}
		}
	}
	stretch(reflect.ValueOf(&c).Elem(), reflect.ValueOf(&value).Elem())
	return c
}

// TestMemoryBehindTheLists: it is neither read nor written.
func TestMemoryBehindTheLists(t *testing.T) {
	for i, n := range manyNodes(t) {
		want := answersFor(n)
		for more := 1; more < 4; more++ {
			roomy := copyOf(n, more)
			before := stretched(roomy)
			if got := answersFor(roomy); !got.same(want) {
				t.Errorf("%d: %v, want %v", i, got, want)
			}
			if !reflect.DeepEqual(stretched(roomy), before) {
				t.Errorf("%d: %v has been changed", i, roomy)
			}
		}
	}
}

// TestNilAndEmpty: the same to all functions.
func TestNilAndEmpty(t *testing.T) {
	for i, n := range manyNodes(t) {
		empty := copyOf(n, 0)
		for _, v := range changeable(reflect.ValueOf(&empty).Elem()) {
			if v.Kind() == reflect.Slice && v.Len() == 0 {
				v.Set(reflect.MakeSlice(v.Type(), 0, 1))
			}
		}
		if got, want := answersFor(empty), answersFor(n); !got.same(want) {
			t.Errorf("%d: %v, want %v", i, got, want)
		}
	}
}

// TestAnswersOfTheirOwn: what becomes of a node is not seen in the answers for it, and what becomes of an answer not in the node nor in other answers.
func TestAnswersOfTheirOwn(t *testing.T) {
	for i, n := range manyNodes(t) {
		want := answersFor(copyOf(n, 0))
		lent := copyOf(n, 0)
		got := answersFor(lent)
		for _, v := range changeable(reflect.ValueOf(&lent).Elem()) {
			if v.Kind() == reflect.String {
				v.SetString("changed")
			}
		}
		if !got.same(want) {
			t.Errorf("%d: %v, want %v", i, got, want)
		}
		before := copyOf(n, 0)
		other := scope.Calls(n)
		calls := scope.Calls(n)
		calls = calls[:cap(calls)]
		for k := range calls {
			calls[k] = "changed"
		}
		if !slices.Equal(other, want.calls) || !reflect.DeepEqual(copyOf(n, 0), before) || !answersFor(n).same(want) {
			t.Errorf("%d: a change of the calls is seen", i)
		}
	}
}

// TestSeveralTimes: an answer hangs on the node alone, not on the calls before.
func TestSeveralTimes(t *testing.T) {
	nodes := manyNodes(t)
	var first []answers
	for _, n := range nodes {
		first = append(first, answersFor(n))
	}
	for i := len(nodes) - 1; i >= 0; i-- {
		for range 3 {
			if again := answersFor(nodes[i]); !again.same(first[i]) {
				t.Errorf("%v: %v, then %v", nodes[i], first[i], again)
			}
		}
	}
}

func TestAtOnce(t *testing.T) {
	nodes := manyNodes(t)
	all := make([][]answers, 4)
	var group sync.WaitGroup
	for i := range all {
		group.Go(func() {
			for _, n := range nodes {
				all[i] = append(all[i], answersFor(n))
			}
		})
	}
	group.Wait()
	for i := range all {
		for j, n := range nodes {
			if !all[i][j].same(all[0][j]) {
				t.Errorf("%v: %v and %v", n, all[0][j], all[i][j])
			}
		}
	}
}

// TestStrangeNodes: whatever the fields are, each call ends, with an error of tree.
func TestStrangeNodes(t *testing.T) {
	strange := api.Expr{Op: -1, Pos: -1, N: -1, Name: "\xff", L: []api.Expr{{}, {Op: 1 << 40, L: make([]api.Expr, 9)}, {Op: api.Var}}}
	long := strings.Repeat("a", 1<<20)
	for i, n := range []api.Node{
		{Name: long},
		{Name: "f", Out: []api.Decl{{Name: long, Type: 1}}, Eqs: []api.Equation{{}}},
		{Name: "f", Out: []api.Decl{{Name: "x", Type: 1}}, Eqs: []api.Equation{{Left: []string{long}, Expr: variable("x")}}},
		{Name: "f", Out: []api.Decl{{Name: "x", Type: 1}}, Eqs: []api.Equation{{Left: []string{"x"}, Expr: strange}}},
		{Name: "f", Out: []api.Decl{{Name: "x", Type: 1}}, Eqs: []api.Equation{{Left: []string{"x"}, Node: "g", Args: []api.Expr{strange}}}},
		{Name: "f", Out: []api.Decl{{Name: "x", Type: 1}}, Eqs: []api.Equation{{Left: []string{"x"}, Node: "g", Expr: deep(1 << 16)}}},
		{Name: "f", Out: []api.Decl{{Name: "x", Type: 1}}, Eqs: []api.Equation{{Left: []string{"x"}, Node: "g", Args: []api.Expr{deep(1 << 16)}}}},
		{In: make([]api.Decl, 1<<16), Out: make([]api.Decl, 1<<16), Local: make([]api.Decl, 1<<16), Eqs: make([]api.Equation, 1<<16)},
	} {
		if err := checkAll(t, n); err == nil {
			t.Errorf("%d: no error", i)
		}
	}
}
