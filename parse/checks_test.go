package parse_test

import (
	"errors"
	"reflect"
	"strings"
	"testing"

	"pendulum/api"
	"pendulum/lex"
	"pendulum/parse"
	"pendulum/show"
)

// plain is a copy of a value, with nil in the place of each empty list.
func plain[T any](value T) T {
	var copied func(from reflect.Value) reflect.Value
	copied = func(from reflect.Value) reflect.Value {
		to := reflect.New(from.Type()).Elem()
		switch from.Kind() {
		case reflect.Struct:
			for i := range from.NumField() {
				to.Field(i).Set(copied(from.Field(i)))
			}
		case reflect.Slice:
			for i := range from.Len() {
				to.Set(reflect.Append(to, copied(from.Index(i))))
			}
		default:
			to.Set(from)
		}
		return to
	}
	return copied(reflect.ValueOf(&value).Elem()).Interface().(T)
}

// equal holds all fields of two values against each other, positions too.
func equal[T any](a, b T) bool {
	return reflect.DeepEqual(plain(a), plain(b))
}

func at(err error, pos int) error { return &api.At{Pos: pos, Err: err} }

// sameError reports whether two errors are the same sentinel, or are both an At with the same position around the same sentinel.
func sameError(a, b error) bool {
	var x, y *api.At
	if errors.As(a, &x) != errors.As(b, &y) {
		return false
	}
	if x == nil {
		return a == b
	}
	return a == error(x) && b == error(y) && *x == *y
}

// checkExpr holds the tree of an expression against the model's, and its text against the one that is wanted.
func checkExpr(t *testing.T, s, want string) {
	t.Helper()
	e, err := parse.Expr(s)
	if err != nil {
		t.Errorf("Expr(%q): %v", s, err)
		return
	}
	if got := show.Expr(e); got != want {
		t.Errorf("Expr(%q) = %q, want %q", s, got, want)
	}
	compareExpr(t, s)
}

// compareExpr holds what Expr answers against the model.
func compareExpr(t *testing.T, s string) {
	t.Helper()
	e, err := parse.Expr(s)
	want, wantErr := modelOfExpr(s)
	if !equal(e, want) || !sameError(err, wantErr) {
		t.Errorf("Expr(%q) = %v, %v, want %v, %v", s, e, err, want, wantErr)
	}
}

// compareNode holds what Node answers against the model.
func compareNode(t *testing.T, s string) {
	t.Helper()
	n, err := parse.Node(s)
	want, wantErr := modelOfNode(s)
	if !equal(n, want) || !sameError(err, wantErr) {
		t.Errorf("Node(%q) = %v, %v, want %v, %v", s, n, err, want, wantErr)
	}
}

// refuseExpr checks that an expression has that error, and no result, alone and as the right side and as an argument of an equation.
func refuseExpr(t *testing.T, s string, want error) {
	t.Helper()
	if e, err := parse.Expr(s); !sameError(err, want) || !equal(e, api.Expr{}) {
		t.Errorf("Expr(%q) = %v, %v, want %v", s, e, err, want)
	}
	compareExpr(t, s)
	compareNode(t, equation("x = "+s))
	compareNode(t, equation("x, y = f(a, "+s+")"))
}

// refuseNode checks that a node has that error, and no result.
func refuseNode(t *testing.T, s string, want error) {
	t.Helper()
	if n, err := parse.Node(s); !sameError(err, want) || !equal(n, api.Node{}) {
		t.Errorf("Node(%q) = %v, %v, want %v", s, n, err, want)
	}
	compareNode(t, s)
}

// equation is a node with that equation alone.
func equation(s string) string {
	return "node f() returns (x: int); let " + s + "; tel"
}

// mustExpr is an expression that has to be one.
func mustExpr(t *testing.T, s string) api.Expr {
	t.Helper()
	e, err := parse.Expr(s)
	if err != nil {
		t.Fatalf("Expr(%q): %v", s, err)
	}
	return e
}

func mustNode(t *testing.T, s string) api.Node {
	t.Helper()
	n, err := parse.Node(s)
	if err != nil {
		t.Fatalf("Node(%q): %v", s, err)
	}
	return n
}

// pieces are the texts of the tokens of a source, without the End.
func pieces(t *testing.T, s string) []string {
	t.Helper()
	tokens, err := lex.All(s)
	if err != nil {
		t.Fatal(err)
	}
	var list []string
	for _, x := range tokens[:len(tokens)-1] {
		list = append(list, x.Text)
	}
	return list
}

// allTokens are one of each keyword and sign, a name and a number.
func allTokens() []string {
	return append(append(lex.Words(), strings.Fields("( ) , : ; = <> < <= > >= + - * / ->")...), "a", "7")
}
