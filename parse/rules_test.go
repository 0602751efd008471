package parse_test

import (
	"errors"
	"reflect"
	"strings"
	"sync"
	"testing"
	"unsafe"

	"pendulum/api"
	"pendulum/parse"
)

// manyTexts are good and wrong ones of all kinds.
func manyTexts() []string {
	list := []string{"", sample, equation("x = 1"), equation("x, y = g(a, b + 1, b) every r"), "a + b * c", "a b", "(a", "a $", "01", strings.Repeat("a + ", 40) + "a", strings.Repeat("(", 49), "node f() returns (x: int); let tel", "node f(x: int when c) returns (x: int); let x = 1; tel"}
	for seed := range int64(30) {
		w := writer{choose: byChance(seed)}
		w.node(w.choose.node())
		w2 := writer{choose: byChance(seed)}
		w2.expr(w2.choose.expr(4), 0, true, true)
		list = append(list, w.text.String(), w2.text.String())
	}
	return list
}

// answers are all that the functions answer for a text.
type answers struct {
	node           api.Node
	nodeErr        error
	expr           api.Expr
	exprErr        error
	inNode, inExpr string // the text as the functions left it
}

func answersFor(s string) answers {
	var a answers
	bytes := []byte(s)
	// A string that stands in memory which the test could look at afterwards.
	text := unsafe.String(unsafe.SliceData(bytes), len(bytes))
	a.node, a.nodeErr = parse.Node(text)
	a.inNode = string(bytes)
	a.expr, a.exprErr = parse.Expr(text)
	a.inExpr = string(bytes)
	// What becomes of that memory is not to be seen in the answers.
	for i := range bytes {
		bytes[i] = '#'
	}
	return a
}

func (a answers) same(b answers) bool {
	return equal(a.node, b.node) && equal(a.expr, b.expr) && sameError(a.nodeErr, b.nodeErr) && sameError(a.exprErr, b.exprErr)
}

// TestArgumentNeitherChangedNorKept: also not as a part of a name in an answer.
func TestArgumentNeitherChangedNorKept(t *testing.T) {
	for _, s := range manyTexts() {
		a := answersFor(s)
		if a.inNode != s || a.inExpr != s {
			t.Errorf("%q has become %q, %q", s, a.inNode, a.inExpr)
		}
		n, err := modelOfNode(s)
		if !equal(a.node, n) || !sameError(a.nodeErr, err) {
			t.Errorf("Node(%q) = %v, %v, want %v, %v", s, a.node, a.nodeErr, n, err)
		}
		e, err := modelOfExpr(s)
		if !equal(a.expr, e) || !sameError(a.exprErr, err) {
			t.Errorf("Expr(%q) = %v, %v, want %v, %v", s, a.expr, a.exprErr, e, err)
		}
	}
}

// TestSeveralTimes: an answer hangs on the text alone, not on the calls before.
func TestSeveralTimes(t *testing.T) {
	texts := manyTexts()
	var first []answers
	for _, s := range texts {
		first = append(first, answersFor(s))
	}
	for i := len(texts) - 1; i >= 0; i-- {
		for range 3 {
			if again := answersFor(texts[i]); !again.same(first[i]) {
				t.Errorf("%q: %v, then %v", texts[i], first[i], again)
			}
		}
	}
}

func TestAtOnce(t *testing.T) {
	texts := manyTexts()
	all := make([][]answers, 4)
	var group sync.WaitGroup
	for i := range all {
		group.Go(func() {
			for _, s := range texts {
				all[i] = append(all[i], answersFor(s))
			}
		})
	}
	group.Wait()
	for i := range all {
		for j, s := range texts {
			if !all[i][j].same(all[0][j]) {
				t.Errorf("%q: %v and %v", s, all[0][j], all[i][j])
			}
		}
	}
}

// span is the memory of a list, with its spare capacity.
type span struct {
	from, to uintptr
}

// spans are those of all lists within a value.
func spans(v reflect.Value) []span {
	var list []span
	switch v.Kind() {
	case reflect.Struct:
		for i := range v.NumField() {
			list = append(list, spans(v.Field(i))...)
		}
	case reflect.Slice:
		if v.Cap() > 0 {
			from := uintptr(v.UnsafePointer())
			list = append(list, span{from, from + uintptr(v.Cap())*v.Type().Elem().Size()})
		}
		for i := range v.Len() {
			list = append(list, spans(v.Index(i))...)
		}
	}
	return list
}

// TestListsOfTheirOwn: no two lists share memory, those of one answer and those of two.
func TestListsOfTheirOwn(t *testing.T) {
	for _, s := range manyTexts() {
		a, b := answersFor(s), answersFor(s)
		var list []span
		for _, x := range []any{a.node, b.node, a.expr, b.expr} {
			list = append(list, spans(reflect.ValueOf(x))...)
		}
		for i, x := range list {
			for _, y := range list[:i] {
				if x.from < y.to && y.from < x.to {
					t.Errorf("%q: two lists share memory", s)
				}
			}
		}
	}
}

// TestWritingToAnAnswer: a change of one variable's clocks is not seen in another one's, though they are declared together.
func TestWritingToAnAnswer(t *testing.T) {
	n := mustNode(t, "node f() returns (x: int); var a, b, c: int when d when not e; let x = 1; tel")
	n.Local[0].Clocks[0] = api.Clock{Name: "other"}
	_ = append(n.Local[1].Clocks, api.Clock{Name: "other"})
	_ = append(n.Local[2].Clocks[:1], api.Clock{Name: "other"})
	if got := n.Local[1].Clocks; len(got) != 2 || got[0].Name != "d" || got[1].Name != "e" {
		t.Errorf("the clocks of b are %v", got)
	}
	if again := mustNode(t, "node f() returns (x: int); var a, b, c: int when d when not e; let x = 1; tel"); again.Local[0].Clocks[0].Name != "d" || again.Local[2].Clocks[1].Name != "e" {
		t.Errorf("%v", again)
	}
}

// TestWritingToAnError: an At that a caller has changed is not seen in later answers.
func TestWritingToAnError(t *testing.T) {
	for _, s := range []string{"", "a b", "01", "$", strings.Repeat("(", 49), "node f(a: int when c) returns (x: int); let x = 1; tel"} {
		want := answersFor(s)
		for range 2 {
			var x *api.At
			got := answersFor(s)
			if !got.same(want) {
				t.Errorf("%q: %v, want %v", s, got, want)
			}
			for _, err := range []error{got.nodeErr, got.exprErr} {
				if errors.As(err, &x) {
					*x = api.At{Pos: -7}
				}
			}
		}
	}
}

// TestErrorsOfTheDocument: each error is a sentinel of package api, or an At around one, whichever layer it comes from.
func TestErrorsOfTheDocument(t *testing.T) {
	sentinels := []error{api.ErrWord, api.ErrEnd, api.ErrDeep, api.ErrMany, api.ErrRune, api.ErrNumber, api.ErrShape}
	known := func(err error) bool {
		for _, want := range sentinels {
			if err == want {
				return true
			}
		}
		return false
	}
	check := func(s string, err error, empty bool) {
		if err == nil {
			return
		}
		inner := err
		if x, ok := err.(*api.At); ok {
			inner = x.Err
			if x.Pos < 0 || x.Pos > len([]rune(s)) {
				t.Errorf("%q: %v: there is no such position", s, err)
			}
		}
		if !known(inner) || !errors.Is(err, inner) {
			t.Errorf("%q: %v is none of the errors", s, err)
		}
		if !empty {
			t.Errorf("%q: a result beside %v", s, err)
		}
	}
	for seed := range int64(3000) {
		choose := byChance(seed)
		var b []byte
		for range choose(60) {
			b = append(b, one(choose, []string{"\x00", "\xff", "é", "$", "λ", "a", "A", "_", "0", "1", "9", "(", ")", " ", "\n", "-", "<", ">", "=", ",", ";", ":", "if ", "then ", "else ", "node ", "let ", "tel", "int", "when ", "not ", "merge(", "+"})...)
		}
		s := string(b)
		a := answersFor(s)
		check(s, a.nodeErr, equal(a.node, api.Node{}))
		check(s, a.exprErr, equal(a.expr, api.Expr{}))
		compareExpr(t, s)
		compareNode(t, s)
	}
}

// TestGreatTexts: of as many tokens as a source may have, and of more.
func TestGreatTexts(t *testing.T) {
	for _, s := range append(allTokens(), "a + ", "- ", "a -> ", "a fby ", "(a) + ", "if a then b else ", "a when c when ", "a, ", "a: int; ", "x = g(); ", "merge(c, ", "a) ", "not ") {
		for _, n := range []int{api.MaxText / len(s+" "), api.MaxText/len(s+" ") + 1, 1 << 16} {
			row := strings.Repeat(s+" ", n)
			compareExpr(t, row)
			compareNode(t, row)
			compareNode(t, "node f("+row)
			compareNode(t, equation("x = g("+row))
		}
	}
}
