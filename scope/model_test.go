package scope_test

import (
	"math/rand"
	"reflect"
	"slices"
	"strings"
	"testing"

	"pendulum/api"
	"pendulum/tree"
)

// found is an error of a node; its rank is higher the later the chapter names it, place by place.
type found struct {
	rank []int
	err  error
	pos  int
}

// model finds all errors of a valid node, in any order.
type model struct {
	places  map[string]int // of the first variable of each name
	defined map[string]bool
	list    []found
}

func (m *model) add(wrong bool, err error, pos int, rank ...int) {
	if wrong {
		m.list = append(m.list, found{rank, err, pos})
	}
}

func (m *model) unknown(name string) bool {
	_, ok := m.places[name]
	return !ok
}

// expected is what Check is to return: the error, and its position.
func expected(n api.Node) (error, int) {
	switch err := tree.Valid(n).(type) {
	case nil:
	case *api.At:
		return err.Err, err.Pos
	default:
		return err, alone
	}
	m := &model{places: map[string]int{}, defined: map[string]bool{}}
	all := append(append(append([]api.Decl{}, n.In...), n.Out...), n.Local...)
	for k, d := range all {
		m.add(!m.unknown(d.Name), api.ErrTwice, d.Pos, 2, k)
		if m.unknown(d.Name) {
			m.places[d.Name] = k
		}
	}
	for i, q := range n.Eqs {
		m.equation(i, q, len(n.In))
	}
	for k, d := range all {
		for _, c := range d.Clocks {
			m.add(m.unknown(c.Name), api.ErrName, d.Pos, 3, k)
		}
		m.add(k >= len(n.In) && !m.defined[d.Name], api.ErrNone, d.Pos, 5, k)
	}
	if len(m.list) == 0 {
		return nil, alone
	}
	first := slices.MinFunc(m.list, func(a, b found) int { return slices.Compare(a.rank, b.rank) })
	return first.err, first.pos
}

func (m *model) equation(i int, q api.Equation, inputs int) {
	for j, name := range q.Left {
		m.add(m.unknown(name) || m.places[name] < inputs, api.ErrName, q.Pos, 4, i, 1, j, 1)
		m.add(m.defined[name], api.ErrTwice, q.Pos, 4, i, 1, j, 2)
		m.defined[name] = true
	}
	m.add(q.Every != "" && m.unknown(q.Every), api.ErrName, q.Pos, 4, i, 2)
	rest := slices.Clone(q.Args)
	if q.Node == "" {
		rest = []api.Expr{q.Expr}
	}
	for k := 0; len(rest) > 0; k++ {
		e := rest[0]
		rest = append(slices.Clone(e.L), rest[1:]...)
		m.add(hasName(e.Op) && m.unknown(e.Name), api.ErrName, e.Pos, 4, i, 3, k)
	}
}

// checkAll holds all functions against plain ones, and returns the error that Check is to return.
func checkAll(t *testing.T, n api.Node) error {
	t.Helper()
	err, pos := expected(n)
	checkError(t, "model", n, err, pos)
	first := map[string]int{"": none, "none": none}
	calls := map[string]bool{}
	for _, d := range tree.Vars(n) {
		first[d.Name] = none
	}
	for i := len(n.Eqs) - 1; i >= 0; i-- {
		if calls[n.Eqs[i].Node] = true; n.Eqs[i].Node == "" {
			delete(calls, "")
		}
		for _, name := range n.Eqs[i].Left {
			first[name] = i
		}
	}
	for name, i := range first {
		checkGives(t, n, name, i)
	}
	var want []string
	for name := range calls {
		want = append(want, name)
	}
	slices.Sort(want)
	checkCalls(t, n, want)
	return err
}

// chooser chooses one of 0 to n - 1.
type chooser func(n int) int

func byChance(seed int64) chooser {
	return rand.New(rand.NewSource(seed)).Intn
}

// byBytes chooses by one byte after the other, and behind them the least.
func byBytes(b []byte) chooser {
	return func(n int) int {
		if len(b) == 0 {
			return 0
		}
		choice := int(b[0]) % n
		b = b[1:]
		return choice
	}
}

func one[T any](choose chooser, list []T) T { return list[choose(len(list))] }

// shuffled are the items in another order.
func shuffled[T any](choose chooser, list []T) []T {
	list = slices.Clone(list)
	for i := len(list) - 1; i > 0; i-- {
		j := choose(i + 1)
		list[i], list[j] = list[j], list[i]
	}
	return list
}

func manyNames() []string {
	return []string{"a", "b", "c", "x", "y", "z", "aa", "a1", "a_", "λ", "f", "g", "nota", strings.Repeat("n", api.MaxName)}
}

// expr is a valid part over variables of these names, whose operands are valid down to a depth.
func (choose chooser) expr(depth int, names []string) api.Expr {
	op := 1 + choose(25)
	if depth == 1 {
		op = 1 + choose(3)
	}
	e := api.Expr{Op: op, Pos: choose(40) - 5}
	if hasName(op) {
		e.Name = one(choose, names)
	}
	for range arity(op) {
		e.L = append(e.L, choose.expr(depth-1, names))
	}
	return e
}

func (choose chooser) decls(names, all []string, clocks int) []api.Decl {
	var list []api.Decl
	for _, name := range names {
		d := api.Decl{Pos: choose(40) - 5, Name: name, Type: 1 + choose(2)}
		for range choose(clocks + 1) {
			d.Clocks = append(d.Clocks, api.Clock{Name: one(choose, all), On: choose(2) == 1})
		}
		list = append(list, d)
	}
	return list
}

// equations define each of the names once, some of them together.
func (choose chooser) equations(names, all []string) []api.Equation {
	var list []api.Equation
	for len(names) > 0 {
		q := api.Equation{Pos: choose(40) - 5}
		if choose(2) == 0 {
			q.Left, names = names[:1:1], names[1:]
			q.Expr = choose.expr(1+choose(4), all)
			list = append(list, q)
			continue
		}
		k := 1 + choose(min(3, len(names)))
		q.Left, names = slices.Clone(names[:k]), names[k:]
		q.Node = one(choose, manyNames())
		for range choose(4) {
			q.Args = append(q.Args, choose.expr(1+choose(3), all))
		}
		if choose(2) == 0 {
			q.Every = one(choose, all)
		}
		list = append(list, q)
	}
	return list
}

// node is one that has no error, but for its size.
func (choose chooser) node() api.Node {
	all := shuffled(choose, manyNames())[:1+choose(8)]
	inputs := choose(len(all))
	outputs := 1 + choose(len(all)-inputs)
	return api.Node{
		Name:  "f",
		In:    choose.decls(all[:inputs], nil, 0),
		Out:   choose.decls(all[inputs:inputs+outputs], nil, 0),
		Local: choose.decls(all[inputs+outputs:], all, 4),
		Eqs:   choose.equations(shuffled(choose, all[inputs:]), all),
	}
}

// changeable are the names and the lists within a value.
func changeable(v reflect.Value) []reflect.Value {
	var list []reflect.Value
	switch v.Kind() {
	case reflect.Struct:
		for i := range v.NumField() {
			list = append(list, changeable(v.Field(i))...)
		}
	case reflect.Slice:
		list = append(list, v)
		for i := range v.Len() {
			list = append(list, changeable(v.Index(i))...)
		}
	case reflect.String:
		if v.Len() > 0 {
			list = append(list, v)
		}
	}
	return list
}

// change makes another name of one, or leaves an item of a list out, doubles it, or puts it in another place.
func (choose chooser) change(n *api.Node) {
	v := one(choose, changeable(reflect.ValueOf(n).Elem()))
	if v.Kind() == reflect.String {
		v.SetString(one(choose, append(manyNames(), "q", "q")))
		return
	}
	if v.Len() == 0 {
		return
	}
	i, j := choose(v.Len()), choose(v.Len())
	switch choose(3) {
	case 0:
		v.Set(reflect.AppendSlice(copyValue(v.Slice(0, i), 0), v.Slice(i+1, v.Len())))
	case 1:
		v.Set(reflect.Append(v, copyValue(v.Index(i), 0)))
	case 2:
		reflect.Swapper(v.Interface())(i, j)
	}
}

// checkChanges makes a node without error, and some changes of it.
func checkChanges(t *testing.T, choose chooser) []error {
	t.Helper()
	n := choose.node()
	list := []error{checkAll(t, n)}
	for range choose(5) {
		n = copyOf(n, 0)
		choose.change(&n)
		list = append(list, checkAll(t, n))
	}
	return list
}

// TestRandomNodesWithoutError: those that are made so, but for their size.
func TestRandomNodesWithoutError(t *testing.T) {
	good := 0
	for seed := range int64(2000) {
		n := byChance(seed).node()
		if tree.Valid(n) == nil {
			good++
			checkError(t, "made without error", n, nil, 0)
		}
	}
	if good < 1000 {
		t.Errorf("only %d of the nodes are valid", good)
	}
}

// TestRandomNodes: each of the errors is to be among the first ones.
func TestRandomNodes(t *testing.T) {
	counts := map[error]int{}
	for seed := range int64(10000) {
		for _, err := range checkChanges(t, byChance(seed)) {
			counts[err]++
		}
	}
	for _, err := range []error{nil, api.ErrTwice, api.ErrName, api.ErrNone} {
		if counts[err] < 100 {
			t.Errorf("%v: %d times", err, counts[err])
		}
	}
}

// TestAllShortLefts: two equations with up to two names each, of an input, the outputs, a local and no variable.
func TestAllShortLefts(t *testing.T) {
	var lefts [][]string
	names := []string{"a", "x", "y", "z", "q"}
	for _, first := range names {
		lefts = append(lefts, []string{first})
		for _, second := range names {
			lefts = append(lefts, []string{first, second})
		}
	}
	n := mustNode(t, "node f(a: int) returns (x, y: int); var z: int; let x = g() every c; y = h(c); tel")
	for _, every := range []string{"", "a", "c"} {
		for _, arg := range []string{"z", "c"} {
			n.Eqs[0].Every = every
			n.Eqs[1].Args[0].Name = arg
			for _, first := range lefts {
				for _, second := range lefts {
					n.Eqs[0].Left, n.Eqs[1].Left = first, second
					checkAll(t, n)
				}
			}
		}
	}
}

// TestAllShortVariables: up to two of each kind, with the same or other names, and a local with two clocks.
func TestAllShortVariables(t *testing.T) {
	names := []string{"a", "x", "z"}
	lists := [][]string{nil}
	for _, first := range names {
		lists = append(lists, []string{first})
		for _, second := range names {
			lists = append(lists, []string{first, second})
		}
	}
	choose := byChance(1)
	for _, in := range lists {
		for _, out := range lists[1:] {
			for _, local := range lists {
				n := mustNode(t, "node f() returns (x: int); let x = a; z = g(z); tel")
				n.In, n.Out = choose.decls(in, nil, 0), choose.decls(out, nil, 0)
				n.Local = choose.decls(local, names, 2)
				checkAll(t, n)
			}
		}
	}
}

func FuzzNode(f *testing.F) {
	for _, s := range []string{"", "\x01\x02\x03\x04\x05", strings.Repeat("\x01\x09\x17\x05\x02", 20), strings.Repeat("\x07\x03\x18\x19\x03\x01\x07", 30)} {
		f.Add([]byte(s))
	}
	f.Fuzz(func(t *testing.T, b []byte) {
		checkChanges(t, byBytes(b))
	})
}
