package lex_test

import (
	"slices"
	"sync"
	"testing"

	"pendulum/api"
	"pendulum/lex"
)

// item is what a loop gets at once.
type item struct {
	token lex.Token
	err   string
}

func newItem(token lex.Token, err error) item {
	if err != nil {
		return item{token, err.Error()}
	}
	return item{token, ""}
}

// collect is what a loop gets that ends behind n items (below 0: it does not end early).
func collect(each func(func(lex.Token, error) bool), n int) []item {
	var list []item
	for token, err := range each {
		list = append(list, newItem(token, err))
		if len(list) == n {
			break
		}
	}
	return list
}

// loopTexts end with the End, with an error in the midst, and with one ahead of all tokens.
func loopTexts() []string {
	return []string{"", "-- a", "a", "a<=1", "λ if 12 -> -- €\n(x)", "a b 1x c", "_", "a _ b", "a\x00", "\xff"}
}

func TestIteratorsSeveralTimes(t *testing.T) {
	for _, s := range loopTexts() {
		each := lex.Tokens(s)
		first := collect(each, -1)
		if len(first) == 0 {
			t.Errorf("Tokens(%q) yields nothing", s)
		}
		for range 3 {
			if again := collect(each, -1); !slices.Equal(again, first) {
				t.Errorf("Tokens(%q) again: %v, want %v", s, again, first)
			}
		}
		if other := collect(lex.Tokens(s), -1); !slices.Equal(other, first) {
			t.Errorf("another Tokens(%q): %v, want %v", s, other, first)
		}
	}
}

func TestLoopsThatEndEarly(t *testing.T) {
	for _, s := range loopTexts() {
		each := lex.Tokens(s)
		whole := collect(lex.Tokens(s), -1)
		for n := 1; n <= len(whole)+1; n++ {
			if got, want := collect(each, n), whole[:min(n, len(whole))]; !slices.Equal(got, want) {
				t.Errorf("Tokens(%q), %d of them: %v, want %v", s, n, got, want)
			}
			if got := collect(each, -1); !slices.Equal(got, whole) {
				t.Errorf("Tokens(%q) behind a loop that ended early: %v, want %v", s, got, whole)
			}
		}
	}
}

// A plain call of the iterator tells whether it calls its function once more behind a false, the End or an error.
func TestNothingIsYieldedBehindTheEnd(t *testing.T) {
	for _, s := range loopTexts() {
		whole := len(collect(lex.Tokens(s), -1))
		for stop := 1; stop <= whole+1; stop++ {
			calls := 0
			lex.Tokens(s)(func(lex.Token, error) bool {
				calls++
				return calls != stop
			})
			if calls != min(stop, whole) {
				t.Errorf("Tokens(%q): %d calls, want %d", s, calls, min(stop, whole))
			}
		}
	}
}

func TestTokensAheadOfAnError(t *testing.T) {
	each := lex.Tokens("a b 1x c")
	for range 2 {
		want := []item{{name(0, "a"), ""}, {name(2, "b"), ""}, {lex.Token{}, "4: " + api.ErrNumber.Error()}}
		if got := collect(each, -1); !slices.Equal(got, want) {
			t.Errorf("got %v, want %v", got, want)
		}
	}
	if list, err := lex.All("a b 1x c"); len(list) != 0 || err == nil {
		t.Error(list, err)
	}
}

func TestLoopsWithinOneAnother(t *testing.T) {
	each := lex.Tokens("λ <= 1")
	whole := collect(each, -1)
	n := 0
	for token, err := range each {
		if got := newItem(token, err); got != whole[n] {
			t.Errorf("outer token %d: %v", n, got)
		}
		for inner := range each {
			if inner != whole[0].token {
				t.Errorf("first inner token: %v", inner)
			}
			break
		}
		if got := collect(each, -1); !slices.Equal(got, whole) {
			t.Errorf("inner loop: %v", got)
		}
		n++
	}
	if n != len(whole) {
		t.Error(n)
	}
}

func TestOneIteratorForManyAtOnce(t *testing.T) {
	each := lex.Tokens("node f(x: int) -- λ€\n returns 1 -> _")
	whole := collect(each, -1)
	var wait sync.WaitGroup
	for range 8 {
		wait.Go(func() {
			for range 50 {
				if got := collect(each, -1); !slices.Equal(got, whole) {
					t.Errorf("got %v, want %v", got, whole)
				}
			}
		})
	}
	wait.Wait()
}

// What a caller does with an error must not be seen in the next one.
func TestErrorsAreNotShared(t *testing.T) {
	for s, pos := range map[string]int{"a _": 2, "a 01": 2, "a \x00": 2, "a \xff": 2} {
		each := lex.Tokens(s)
		_, before := lex.All(s)
		told := before.Error()
		for range 3 {
			for _, err := range each {
				if err == nil {
					continue
				}
				if err.Error() != told {
					t.Errorf("Tokens(%q): %v, want %s", s, err, told)
				}
				at := err.(*api.At)
				at.Pos, at.Err = 99, api.ErrFace
			}
		}
		_, after := lex.All(s)
		if before.Error() != told || after.Error() != told || after.(*api.At).Pos != pos {
			t.Errorf("All(%q): %v and %v, want %s", s, before, after, told)
		}
	}
}

func TestListsAreNew(t *testing.T) {
	const s = "λ <= 1 if"
	first, _ := lex.All(s)
	second, _ := lex.All(s)
	want := slices.Clone(second)
	clear(first[:cap(first)])
	_ = append(first[:1], name(7, "x"), name(8, "y"))
	third, err := lex.All(s)
	if !slices.Equal(second, want) || !slices.Equal(third, want) || err != nil {
		t.Errorf("%v, %v, want %v", second, third, want)
	}
}
