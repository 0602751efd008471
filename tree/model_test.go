package tree_test

import (
	"errors"
	"reflect"
	"regexp"
	"slices"
	"strings"
	"testing"

	"pendulum/api"
	"pendulum/tree"
)

// found is an error of a node; its rank is higher the later the chapter names it, place by place.
type found struct {
	rank []int
	err  error
	pos  int
}

// model finds all errors of a node, in any order.
type model struct {
	name *regexp.Regexp
	list []found
}

func (m *model) add(wrong bool, err error, pos int, rank ...int) {
	if wrong {
		m.list = append(m.list, found{rank, err, pos})
	}
}

func (m *model) bad(name string) bool {
	keywords := strings.Fields("and bool else every false fby if int let merge mod node not or pre returns tel then true var when xor")
	return !m.name.MatchString(name) || len(name) > api.MaxName || slices.Contains(keywords, name)
}

// expected is what Valid is to return: the error, and its position.
func expected(n api.Node) (error, int) {
	m := &model{name: regexp.MustCompile(`^[a-z\x{3b1}-\x{3c9}][a-z\x{3b1}-\x{3c9}0-9_]*\z`)}
	parts := 0
	for i, q := range n.Eqs {
		parts += len(partsOf(q.Args...))
		if q.Node == "" {
			parts += len(partsOf(q.Expr))
		}
		for _, e := range append([]api.Expr{q.Expr}, q.Args...) {
			m.add(levels(e) > api.MaxNest, api.ErrDeep, alone, 3)
		}
		m.equation(i, q)
	}
	m.add(m.bad(n.Name), api.ErrName, alone, 1)
	m.add(len(n.In)+len(n.Out)+len(n.Local) > api.MaxVars || len(n.Out) < 1 || len(n.Eqs) < 1 || parts > api.MaxExprs, api.ErrMany, alone, 2)
	for i, l := range [][]api.Decl{n.In, n.Out, n.Local} {
		for j, d := range l {
			m.add(m.bad(d.Name), api.ErrName, d.Pos, 4, i, j, 1)
			m.add(d.Type < 1 || d.Type > 2 || len(d.Clocks) > []int{0, 0, 4}[i], api.ErrShape, d.Pos, 4, i, j, 2)
			for _, c := range d.Clocks {
				m.add(m.bad(c.Name), api.ErrName, d.Pos, 4, i, j, 3)
			}
		}
	}
	if len(m.list) == 0 {
		return nil, alone
	}
	first := slices.MinFunc(m.list, func(a, b found) int { return slices.Compare(a.rank, b.rank) })
	return first.err, first.pos
}

func (m *model) equation(i int, q api.Equation) {
	m.add(len(q.Left) < 1, api.ErrShape, q.Pos, 5, i, 1)
	for _, name := range append([]string{q.Node, q.Every}, q.Left...) {
		m.add(name != "" && m.bad(name), api.ErrName, q.Pos, 5, i, 2)
	}
	m.add(slices.Contains(q.Left, ""), api.ErrName, q.Pos, 5, i, 2)
	all := q.Args
	if q.Node == "" {
		m.add(q.Every != "" || len(q.Args) > 0 || len(q.Left) > 1, api.ErrShape, q.Pos, 5, i, 3)
		all = []api.Expr{q.Expr}
	} else {
		m.add(q.Expr.Op != 0, api.ErrShape, q.Pos, 5, i, 3)
	}
	for k, e := range partsOf(all...) {
		if e.Op < 1 || e.Op > 25 {
			m.add(true, api.ErrShape, e.Pos, 5, i, 4, k, 1)
			continue
		}
		m.add(len(e.L) != arity(e.Op) || !goodN(e.Op, e.N) || e.Name != "" && !hasName(e.Op), api.ErrShape, e.Pos, 5, i, 4, k, 1)
		m.add(hasName(e.Op) && m.bad(e.Name), api.ErrName, e.Pos, 5, i, 4, k, 2)
	}
}

// levels is the depth of an expression, level by level.
func levels(e api.Expr) int {
	n := 0
	for level := []api.Expr{e}; len(level) > 0; n++ {
		var below []api.Expr
		for _, x := range level {
			below = append(below, x.L...)
		}
		level = below
	}
	return n
}

// namesOf are the names that stand late, or not late, in a tree of which a part is late or not.
func namesOf(e api.Expr, late bool, to map[bool]map[string]bool) {
	if hasName(e.Op) {
		to[late][e.Name] = true
	}
	for i, x := range e.L {
		namesOf(x, late || e.Op == 23 || e.Op == 21 && i == 1, to)
	}
}

func checkUsesByModel(t *testing.T, e api.Expr) {
	t.Helper()
	to := map[bool]map[string]bool{true: {}, false: {}}
	namesOf(e, false, to)
	for _, late := range []bool{false, true} {
		var want []string
		for name := range to[false] {
			want = append(want, name)
		}
		for name := range to[true] {
			if late && !to[false][name] {
				want = append(want, name)
			}
		}
		slices.Sort(want)
		if got := tree.Uses(e, late); !slices.Equal(got, want) {
			t.Errorf("%v: Uses, late %v = %q, want %q", e, late, got, want)
		}
	}
}

// checkAll holds all functions against plain ones, and reports whether the node is valid.
func checkAll(t *testing.T, n api.Node) bool {
	t.Helper()
	before := copyOf(n, 0)
	err, pos := expected(n)
	checkValid(t, "model", n, err, pos)
	parts := 0
	for _, q := range n.Eqs {
		l := append([]api.Expr{q.Expr}, q.Args...)
		want := partsOf(l...)
		if got := collect(tree.Parts(l...), -1); !equal(got, want) {
			t.Errorf("Parts = %v, want %v", got, want)
		}
		if parts += len(want); q.Node != "" {
			parts -= len(partsOf(q.Expr))
		}
		for _, e := range l {
			checkUsesByModel(t, e)
			if got := tree.Depth(e); got != levels(e) {
				t.Errorf("%v: Depth = %d, want %d", e, got, levels(e))
			}
		}
	}
	if got := tree.Count(n); got != parts {
		t.Errorf("%v: Count = %d, want %d", n, got, parts)
	}
	all := append(append(append([]api.Decl{}, n.In...), n.Out...), n.Local...)
	if got := tree.Vars(n); !equal(got, all) {
		t.Errorf("%v: Vars = %v", n, got)
	}
	for _, d := range append(all, api.Decl{Name: "none"}) {
		i := slices.IndexFunc(all, func(x api.Decl) bool { return x.Name == d.Name })
		got, ok := tree.Find(n, d.Name)
		if ok != (i >= 0) || ok && !equal(got, all[i]) || !ok && !equal(got, api.Decl{}) {
			t.Errorf("%v: Find(%q) = %v, %v", n, d.Name, got, ok)
		}
	}
	if c := tree.Clone(n); !equal(c, n) || !equal(n, before) {
		t.Errorf("%v: Clone = %v", n, c)
	}
	return err == nil
}

// change makes another value, or the same, of one field or list of n, and reports whether Same is to see it.
func (choose chooser) change(n *api.Node) bool {
	list := leaves(n)
	l := list[choose(len(list))]
	before := unplaced(*n)
	switch l.value.Kind() {
	case reflect.String:
		l.value.SetString(one(choose, append(append(goodNames(), badNames()...), "", "", "")))
	case reflect.Bool:
		l.value.SetBool(!l.value.Bool())
	case reflect.Slice:
		choose.changeList(l.value)
	default:
		l.value.SetInt(one(choose, append(numbers(), int64(choose(30)))))
	}
	return !equal(unplaced(*n), before)
}

// unplaced is a copy without positions.
func unplaced(n api.Node) api.Node {
	n = copyOf(n, 0)
	for _, l := range leaves(&n) {
		if isPos(l) {
			l.value.SetZero()
		}
	}
	return n
}

func (choose chooser) changeList(l reflect.Value) {
	switch n := l.Len(); choose(5) {
	case 0:
		l.SetZero()
	case 1:
		l.Set(l.Slice(0, max(0, n-1)))
	case 2:
		l.Set(reflect.Append(l, reflect.Zero(l.Type().Elem())))
	case 3:
		for range choose(10) * min(n, 1) {
			l.Set(reflect.Append(l, copyValue(l.Index(choose(n)), 0)))
		}
	case 4:
		if n > 0 {
			reflect.Swapper(l.Interface())(choose(n), choose(n))
		}
	}
}

// checkChanges makes a node, and some changes of it.
func checkChanges(t *testing.T, choose chooser) (valid bool) {
	t.Helper()
	n := choose.node()
	for range choose(4) {
		m := copyOf(n, 0)
		other := choose.change(&m)
		checkSame(t, "a change", n, m, !other)
		n = m
	}
	return checkAll(t, n)
}

func TestRandomNodes(t *testing.T) {
	choose := byChance(7)
	valid := 0
	const all = 2000
	for range all {
		if checkChanges(t, choose) {
			valid++
		}
	}
	if valid < all/5 || valid > all*4/5 {
		t.Errorf("%d of %d nodes are valid", valid, all)
	}
}

// Of all errors that the random nodes have, each kind is to be among the first ones.
func TestRandomNodesHaveAllErrors(t *testing.T) {
	choose := byChance(8)
	counts := map[error]int{}
	for range 2000 {
		n := choose.node()
		for range 2 {
			choose.change(&n)
		}
		err := tree.Valid(n)
		at := (*api.At)(nil)
		if errors.As(err, &at) {
			err = at.Err
		}
		counts[err]++
	}
	for _, err := range []error{nil, api.ErrName, api.ErrMany, api.ErrShape} {
		if counts[err] < 10 {
			t.Errorf("%v: %d times", err, counts[err])
		}
	}
}

func FuzzNode(f *testing.F) {
	for _, s := range []string{"", "\x01\x02\x03\x04\x05", strings.Repeat("\x01\x09\x17\x05\x02", 20), strings.Repeat("\x00\x15\x18\x19\x03\x01\x07", 30)} {
		f.Add([]byte(s))
	}
	f.Fuzz(func(t *testing.T, b []byte) {
		checkChanges(t, byBytes(b))
	})
}
