package scope_test

import (
	"reflect"
	"strings"
	"testing"

	"pendulum/api"
	"pendulum/parse"
	"pendulum/scope"
)

// alone stands in the place of the position of an error that has none.
const alone = -1 << 40

// marked is a text without its mark, and the position of the mark: before it stands what is to be told.
func marked(s string) (string, int) {
	before, behind, found := strings.Cut(s, "@")
	if !found {
		return s, alone
	}
	return before + behind, len([]rune(before))
}

func mustNode(t *testing.T, s string) api.Node {
	t.Helper()
	n, err := parse.Node(s)
	if err != nil {
		t.Fatalf("Node(%q): %v", s, err)
	}
	return n
}

// copyOf is a copy of a value whose lists have room for more items behind them; the room is filled with the first items, so that writing there can be seen.
func copyOf[T any](value T, more int) T {
	return copyValue(reflect.ValueOf(&value).Elem(), more).Interface().(T)
}

func copyValue(v reflect.Value, more int) reflect.Value {
	c := reflect.New(v.Type()).Elem()
	switch v.Kind() {
	case reflect.Struct:
		for i := range v.NumField() {
			c.Field(i).Set(copyValue(v.Field(i), more))
		}
		return c
	case reflect.Slice:
		if v.IsNil() && more == 0 {
			return c
		}
		c.Set(reflect.MakeSlice(v.Type(), v.Len()+more, v.Len()+more))
		for i := range c.Len() {
			if i < v.Len() {
				c.Index(i).Set(copyValue(v.Index(i), more))
			} else if v.Len() > 0 {
				c.Index(i).Set(copyValue(v.Index(i%v.Len()), 0))
			}
		}
		return c.Slice(0, v.Len())
	}
	c.Set(v)
	return c
}

// isError reports whether err is want: alone, or in an At with the position.
func isError(err, want error, pos int) bool {
	if want == nil || pos == alone {
		return err == want
	}
	at, ok := err.(*api.At)
	return ok && at.Err == want && at.Pos == pos
}

// checkError checks what Check answers, several times, and that it leaves the node as it was.
func checkError(t *testing.T, what any, n api.Node, want error, pos int) {
	t.Helper()
	before := copyOf(n, 0)
	for range 2 {
		if err := scope.Check(n); !isError(err, want, pos) {
			t.Errorf("%v: Check(%v) = %v, want %v at %d", what, n, err, want, pos)
		}
	}
	if !reflect.DeepEqual(copyOf(n, 0), before) {
		t.Errorf("%v: Check has changed %v to %v", what, before, n)
	}
}

// checkText checks what Check answers for the node of a text with a mark.
func checkText(t *testing.T, s string, want error) {
	t.Helper()
	source, pos := marked(s)
	checkError(t, s, mustNode(t, source), want, pos)
}

// checkGives checks the index that Gives answers; none stands for false.
func checkGives(t *testing.T, n api.Node, name string, want int) {
	t.Helper()
	for range 2 {
		i, ok := scope.Gives(n, name)
		if ok != (want != none) || ok && i != want || !ok && i != 0 {
			t.Errorf("Gives(%v, %q) = %d, %v, want %d", n, name, i, ok, want)
		}
	}
}

const none = -1

func variable(name string) api.Expr { return api.Expr{Op: api.Var, Name: name} }

// arity is the number of operands of each Op from 1 to 25, as the remarks in package api tell.
func arity(op int) int {
	return int("0001122222222222222322112"[op-1] - '0')
}

func hasName(op int) bool { return op == api.Var || op == api.When || op == api.Merge }

// part is a valid part with that Op: its operands are a, and its name, if it has one, is c.
func part(op int) api.Expr {
	e := api.Expr{Op: op}
	for range arity(op) {
		e.L = append(e.L, variable("a"))
	}
	if hasName(op) {
		e.Name = "c"
	}
	return e
}
