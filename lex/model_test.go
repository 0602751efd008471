package lex_test

import (
	"math/big"
	"math/rand"
	"regexp"
	"slices"
	"strings"
	"testing"
	"unicode/utf8"

	"pendulum/api"
	"pendulum/lex"
)

// want is what All is to return; ahead are the tokens ahead of an error, which Tokens yields.
type want struct {
	ahead []lex.Token
	err   error
	pos   int // of the error; alone if it has none
}

const alone = -1

// patterns take a token, or what stands between tokens, off the beginning of a text.
type patterns struct {
	between, name, number, sign, bad *regexp.Regexp
}

func newPatterns() patterns {
	return patterns{
		between: regexp.MustCompile(`^(?:[ \t\n]|--[^\n]*)+`),
		name:    regexp.MustCompile(`^[a-z\x{3b1}-\x{3c9}][a-z\x{3b1}-\x{3c9}0-9_]*`),
		number:  regexp.MustCompile(`^[0-9]+`),
		sign:    regexp.MustCompile(`^(?:<>|<=|>=|->|[(),:;=<>+*/-])`),
		bad:     regexp.MustCompile(`[\x00-\x08\x0b-\x1f\x7f]`),
	}
}

// notValid is the error of the whole text.
func (p patterns) notValid(s string) (want, bool) {
	if len(s) > api.MaxText {
		return want{err: api.ErrMany, pos: alone}, true
	}
	first := len(s)
	for i := 0; i < len(s); {
		r, size := utf8.DecodeRuneInString(s[i:])
		if r == utf8.RuneError && size == 1 {
			first = i
			break
		}
		i += size
	}
	if at := p.bad.FindStringIndex(s[:first]); at != nil {
		first = at[0]
	}
	return want{err: api.ErrRune, pos: len([]rune(s[:first]))}, first < len(s)
}

// model reads s by the patterns.
func (p patterns) model(s string) want {
	if w, wrong := p.notValid(s); wrong {
		return w
	}
	var w want
	for i := 0; ; {
		i += len(p.between.FindString(s[i:]))
		t, err := p.token(s[i:])
		t.Pos = utf8.RuneCountInString(s[:i])
		if err != nil {
			w.err, w.pos = err, t.Pos
			return w
		}
		w.ahead = append(w.ahead, t)
		if t.Kind == lex.End {
			return w
		}
		i += len(t.Text)
	}
}

func (p patterns) token(s string) (lex.Token, error) {
	if s == "" {
		return lex.Token{}, nil
	}
	if text := p.name.FindString(s); text != "" {
		kind := lex.Name
		if slices.Contains(keywords(), text) {
			kind = lex.Word
		}
		if len(text) > api.MaxName {
			return lex.Token{}, api.ErrMany
		}
		return lex.Token{Kind: kind, Text: text}, nil
	}
	if text := p.number.FindString(s); text != "" {
		n, _ := new(big.Int).SetString(text, 10)
		rest := s[len(text):]
		if n.String() != text || !n.IsInt64() || strings.HasPrefix(rest, "_") || p.name.MatchString(rest) {
			return lex.Token{}, api.ErrNumber
		}
		return lex.Token{Kind: lex.Number, Text: text, N: n.Int64()}, nil
	}
	if text := p.sign.FindString(s); text != "" {
		return lex.Token{Kind: lex.Sign, Text: text}, nil
	}
	return lex.Token{}, api.ErrRune
}

// check holds All and Tokens against what they are to return.
func check(t *testing.T, s string, w want) {
	t.Helper()
	all, err := lex.All(s)
	checkError(t, "All", s, err, w)
	if w.err == nil && !slices.Equal(all, w.ahead) || w.err != nil && len(all) > 0 {
		t.Errorf("All(%.80q) = %v, want %v and %v", s, all, w.ahead, w.err)
	}
	var ahead []lex.Token
	var last error
	for token, err := range lex.Tokens(s) {
		if last != nil {
			t.Errorf("Tokens(%.80q) goes on behind an error", s)
		}
		if last = err; err == nil {
			ahead = append(ahead, token)
		} else if token != (lex.Token{}) {
			t.Errorf("Tokens(%.80q): %v beside an error", s, token)
		}
	}
	checkError(t, "Tokens", s, last, w)
	if !slices.Equal(ahead, w.ahead) {
		t.Errorf("Tokens(%.80q): %v, want %v", s, ahead, w.ahead)
	}
}

func checkError(t *testing.T, who, s string, err error, w want) {
	t.Helper()
	good := err == w.err
	if w.err != nil && w.pos != alone {
		at, ok := err.(*api.At)
		good = ok && at.Pos == w.pos && at.Err == w.err
	}
	if !good {
		t.Errorf("%s(%.80q): error %v, want %v at %d", who, s, err, w.err, w.pos)
	}
}

// grow calls visit for all strings of at most n of the pieces.
func grow(s string, n int, pieces []string, visit func(string)) {
	visit(s)
	if n == 0 {
		return
	}
	for _, p := range pieces {
		grow(s+p, n-1, pieces, visit)
	}
}

func TestAllShortStrings(t *testing.T) {
	p := newPatterns()
	both := func(s string) { check(t, s, p.model(s)) }
	grow("", 4, []string{"a", "λ", "_", "0", "7", "-", ">", "<", "=", " ", "\n", "€"}, both)
	grow("", 3, []string{"if", "A", "𝄞", "\t", "\x00", "\x7f", "\xff", "\xce", "\ufffd", "--", "->", "9223372036854775807", "(", "+", "1"}, both)
}

func TestAllStringsOfTwoBytes(t *testing.T) {
	p := newPatterns()
	for a := range 256 {
		for b := range 256 {
			s := string([]byte{byte(a), byte(b)})
			check(t, s, p.model(s))
		}
	}
}

func TestEveryRune(t *testing.T) {
	p := newPatterns()
	for r := rune(0); r <= utf8.MaxRune; r++ {
		if r > 0x3000 && r%61 != 0 && r < utf8.MaxRune-9 { // beyond, a part of them tells enough
			continue
		}
		for _, s := range []string{string(r), "a" + string(r), "1" + string(r), "-" + string(r) + ">", "--" + string(r) + "\na"} {
			check(t, s, p.model(s))
		}
	}
}

func TestRandomTexts(t *testing.T) {
	p := newPatterns()
	pieces := append(append(keywords(), signs()...),
		"a", "x1", "λ", "ω_", "long_name_of_24_bytes_abc", "long_name_of_23_bytes_a", "0", "1", "42", "9223372036854775807", "9223372036854775808", "007",
		" ", " ", " ", "\t", "\n", "\n", "-- λ€𝄞\n", "--", "-", ">", "=", "_", "A", "!", "€", "\ufffd", "\x01", "\xff")
	random := rand.New(rand.NewSource(6))
	for range 20000 {
		var b strings.Builder
		few := len(pieces) - random.Intn(12) // most texts are not to end in an error at once
		for range random.Intn(20) {
			b.WriteString(pieces[random.Intn(few)])
			if random.Intn(3) > 0 {
				b.WriteString(" ")
			}
		}
		check(t, b.String(), p.model(b.String()))
	}
}

func FuzzTokens(f *testing.F) {
	for _, s := range []string{"a<=1", "λx -- any\n<>->-", "node f(x: int) returns (y: int);\nlet\n\ty = 0 fby x; -- €𝄞\ntel\n", "9223372036854775808", "01 1a _", "a\xff"} {
		f.Add(s)
	}
	p := newPatterns()
	f.Fuzz(func(t *testing.T, s string) {
		check(t, s, p.model(s))
	})
}
