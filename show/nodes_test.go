package show_test

import (
	"math"
	"math/rand"
	"reflect"
	"strings"
	"testing"

	"pendulum/api"
	"pendulum/tree"
)

func variable(name string) api.Expr { return api.Expr{Op: api.Var, Name: name} }

func number(n int64) api.Expr { return api.Expr{Op: api.Int, N: n} }

func truth(n int64) api.Expr { return api.Expr{Op: api.Bool, N: n} }

func of(op int, l ...api.Expr) api.Expr { return api.Expr{Op: op, L: l} }

func when(e api.Expr, name string) api.Expr {
	return api.Expr{Op: api.When, N: 1, Name: name, L: []api.Expr{e}}
}

func whenNot(e api.Expr, name string) api.Expr {
	return api.Expr{Op: api.When, Name: name, L: []api.Expr{e}}
}

func merge(name string, a, b api.Expr) api.Expr {
	return api.Expr{Op: api.Merge, Name: name, L: []api.Expr{a, b}}
}

// by is x = e.
func by(e api.Expr) api.Equation {
	return api.Equation{Left: []string{"x"}, Expr: e}
}

func decl(name string, typ int, clocks ...api.Clock) api.Decl {
	return api.Decl{Name: name, Type: typ, Clocks: clocks}
}

func on(name string) api.Clock { return api.Clock{Name: name, On: true} }

func off(name string) api.Clock { return api.Clock{Name: name} }

// around is a node with that equation alone.
func around(q api.Equation) api.Node {
	return api.Node{Name: "f", Out: []api.Decl{decl("x", api.TInt)}, Eqs: []api.Equation{q}}
}

// mustBeValid checks that a node is one of those for which the texts are specified.
func mustBeValid(t *testing.T, n api.Node) {
	t.Helper()
	if err := tree.Valid(n); err != nil {
		t.Fatalf("%v: the node is not valid: %v", n, err)
	}
}

func longest() string { return strings.Repeat("n", api.MaxName) }

func longestOfTwos() string { return strings.Repeat("λ", api.MaxName/2) }

func goodNames() []string {
	return []string{"a", "z", "λ", "x1", "y_", "ω_9", "nota", "whenever", "in", longest(), longestOfTwos()}
}

// sample is a valid node with lists of all kinds, and sampleText its text.
func sample() api.Node {
	sum := of(api.Add, variable("x"), of(api.Pre, variable("b")))
	return api.Node{
		Name:  "f",
		In:    []api.Decl{decl("a", api.TInt), decl("c", api.TBool)},
		Out:   []api.Decl{decl("x", api.TInt), decl("y", api.TBool)},
		Local: []api.Decl{decl("z", api.TInt, on("c"), off("d")), decl("w", api.TBool, off("d"), off("d"), on("c"), on("c")), decl("v", api.TInt)},
		Eqs: []api.Equation{
			by(of(api.Fby, number(0), sum)),
			{Left: []string{"y", "z"}, Node: "g", Args: []api.Expr{when(variable("a"), "c"), merge("d", truth(1), of(api.Neg, number(7)))}, Every: "d"},
			{Left: []string{"w"}, Expr: of(api.If, variable("c"), of(api.Not, variable("c")), truth(0))},
			{Left: []string{"v"}, Node: "h"},
		},
	}
}

const sampleText = `node f(a: int; c: bool) returns (x: int; y: bool);
var z: int when c when not d; w: bool when not d when not d when c when c; v: int;
let
  x = 0 fby (x + (pre b));
  y, z = g(a when c, merge(d, true, -7)) every d;
  w = if c then (not c) else false;
  v = h();
tel
`

// copyOf is a copy of a value, whose lists have room for more items behind them; the room is filled with the first items.
func copyOf[T any](value T, more int) T {
	return copyValue(reflect.ValueOf(&value).Elem(), more).Interface().(T)
}

func copyValue(v reflect.Value, more int) reflect.Value {
	c := reflect.New(v.Type()).Elem()
	switch v.Kind() {
	case reflect.Struct:
		for i := range v.NumField() {
			c.Field(i).Set(copyValue(v.Field(i), more))
		}
		return c
	case reflect.Slice:
		if v.IsNil() {
			return c
		}
		c.Set(reflect.MakeSlice(v.Type(), v.Len()+more, v.Len()+more))
		for i := range c.Len() {
			if i < v.Len() {
				c.Index(i).Set(copyValue(v.Index(i), more))
			} else if v.Len() > 0 {
				c.Index(i).Set(copyValue(v.Index(i%v.Len()), 0))
			}
		}
		return c.Slice(0, v.Len())
	}
	c.Set(v)
	return c
}

// whole is a copy of a value, with all of its lists as long as their capacity.
func whole[T any](value T) T {
	var stretch func(from reflect.Value) reflect.Value
	stretch = func(from reflect.Value) reflect.Value {
		to := reflect.New(from.Type()).Elem()
		switch from.Kind() {
		case reflect.Struct:
			for i := range from.NumField() {
				to.Field(i).Set(stretch(from.Field(i)))
			}
			return to
		case reflect.Slice:
			for i := range from.Cap() {
				to.Set(reflect.Append(to, stretch(from.Slice(0, from.Cap()).Index(i))))
			}
			return to
		}
		to.Set(from)
		return to
	}
	return stretch(reflect.ValueOf(&value).Elem()).Interface().(T)
}

// changeAll makes another value of each field within a value that the function changes.
func changeAll(p any, change func(field string, v reflect.Value)) {
	var walk func(field string, v reflect.Value)
	walk = func(field string, v reflect.Value) {
		switch v.Kind() {
		case reflect.Struct:
			for i := range v.NumField() {
				walk(v.Type().Field(i).Name, v.Field(i))
			}
		case reflect.Slice:
			for i := range v.Len() {
				walk("", v.Index(i))
			}
		}
		change(field, v)
	}
	walk("", reflect.ValueOf(p).Elem())
}

// chooser chooses one of 0 to n - 1.
type chooser func(n int) int

func byChance(seed int64) chooser {
	return rand.New(rand.NewSource(seed)).Intn
}

// byBytes chooses by one byte after the other, and behind them the least.
func byBytes(b []byte) chooser {
	return func(n int) int {
		if len(b) == 0 {
			return 0
		}
		choice := int(b[0]) % n
		b = b[1:]
		return choice
	}
}

func one[T any](choose chooser, list []T) T { return list[choose(len(list))] }

func several[T any](choose chooser, most int, item func() T) []T {
	var list []T
	for range choose(most + 1) {
		list = append(list, item())
	}
	return list
}

// expr is a valid part, whose operands are valid down to a depth.
func (choose chooser) expr(depth int) api.Expr {
	op := 1 + choose(25)
	if depth == 1 {
		op = 1 + choose(3)
	}
	e := api.Expr{Op: op, Pos: choose(40) - 5}
	switch op {
	case api.Int:
		e.N = one(choose, []int64{0, 1, 10, 42, math.MaxInt32 + 1, math.MaxInt64 - 1, math.MaxInt64})
	case api.Bool:
		e.N = int64(choose(2))
	case api.Var:
		e.Name = one(choose, goodNames())
	case api.When:
		e.N, e.Name = int64(choose(2)), one(choose, goodNames())
	case api.Merge:
		e.Name = one(choose, goodNames())
	}
	for range arity(op) {
		e.L = append(e.L, choose.expr(depth-1))
	}
	return e
}

// arity is the number of operands of each Op from 1 to 25, as the remarks in package api tell.
func arity(op int) int {
	return int("0001122222222222222322112"[op-1] - '0')
}

func (choose chooser) decl(clocks int) api.Decl {
	return api.Decl{Pos: choose(40) - 5, Name: one(choose, goodNames()), Type: 1 + choose(2), Clocks: several(choose, clocks, func() api.Clock {
		return api.Clock{Name: one(choose, goodNames()), On: choose(2) == 1}
	})}
}

func (choose chooser) equation() api.Equation {
	name := func() string { return one(choose, goodNames()) }
	q := api.Equation{Pos: choose(40) - 5, Left: []string{name()}}
	if choose(2) == 0 {
		q.Expr = choose.expr(1 + choose(5))
		return q
	}
	q.Left = append(q.Left, several(choose, 2, name)...)
	q.Node = name()
	q.Args = several(choose, 3, func() api.Expr { return choose.expr(1 + choose(3)) })
	if choose(2) == 0 {
		q.Every = name()
	}
	return q
}

// node is a valid one, but for its size.
func (choose chooser) node() api.Node {
	port := func() api.Decl { return choose.decl(0) }
	return api.Node{
		Name: one(choose, goodNames()), In: several(choose, 3, port), Out: append(several(choose, 2, port), port()),
		Local: several(choose, 3, func() api.Decl { return choose.decl(4) }),
		Eqs:   append(several(choose, 3, choose.equation), choose.equation()),
	}
}

// plain is a copy without positions, with nil in the place of each empty list.
func plain(n api.Node) api.Node {
	n = copyOf(n, 0)
	changeAll(&n, func(field string, v reflect.Value) {
		if field == "Pos" || v.Kind() == reflect.Slice && v.Len() == 0 {
			v.SetZero()
		}
	})
	return n
}

func equal(a, b api.Node) bool {
	return reflect.DeepEqual(plain(a), plain(b))
}
