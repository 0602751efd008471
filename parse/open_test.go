package parse_test

import (
	"math/rand"
	"strings"
	"testing"

	"pendulum/api"
	"pendulum/parse"
)

const maxOpen = 2 * api.MaxNest

// opening is the beginning of an expression in which one thing more is open, and another expression may stand next, but an if only if begins is true.
type opening struct {
	text   string
	at     int    // where in the text the token is that opens it
	behind string // what completes it
	begins bool
}

func openings() []opening {
	return []opening{
		{"(", 0, ")", true},
		{"merge(c, ", 0, ", b)", true},
		{"merge(c, a, ", 0, ")", true},
		{"if ", 0, " then a else b", true},
		{"if a then ", 0, " else b", true},
		{"if a then b else ", 0, "", true},
		{"- ", 0, "", false},
		{"not ", 0, "", false},
		{"pre ", 0, "", false},
		{"a -> ", 2, "", true},
		{"a fby ", 2, "", true},
	}
}

// nested is that opening some times, with an operand within.
func nested(x opening, times int) string {
	return strings.Repeat(x.text, times) + "a" + strings.Repeat(x.behind, times)
}

// TestEachKindOfWhatIsOpen: as many as there may be are open, and one more.
func TestEachKindOfWhatIsOpen(t *testing.T) {
	for _, x := range openings() {
		for _, n := range []int{maxOpen - 1, maxOpen} {
			// So many are too deep a tree, but for the parentheses; the syntax allows them.
			if _, err := parse.Expr(nested(x, n)); err != nil && err != api.ErrDeep {
				t.Errorf("%d times %q: %v", n, x.text, err)
			}
			compareExpr(t, nested(x, n))
		}
		for _, n := range []int{maxOpen + 1, maxOpen + 2, 2 * maxOpen} {
			refuseExpr(t, nested(x, n), at(api.ErrDeep, maxOpen*len(x.text)+x.at))
		}
	}
	checkExpr(t, strings.Repeat("(", maxOpen)+"a"+strings.Repeat(")", maxOpen), "a")
}

// TestEachKindWhereAllIsOpen: each kind behind as many parentheses as there may be, where they are all open, and where all but one are.
func TestEachKindWhereAllIsOpen(t *testing.T) {
	full, one := strings.Repeat("(", maxOpen), strings.Repeat("(", maxOpen-1)
	for _, x := range openings() {
		refuseExpr(t, full+x.text, at(api.ErrDeep, maxOpen+x.at))
		refuseExpr(t, full+strings.TrimRight(x.text, " "), at(api.ErrDeep, maxOpen+x.at))
		refuseExpr(t, full+nested(x, 1)+strings.Repeat(")", maxOpen), at(api.ErrDeep, maxOpen+x.at))
		mustExpr(t, one+nested(x, 1)+strings.Repeat(")", maxOpen-1))
		refuseExpr(t, one+x.text, at(api.ErrEnd, len(one+x.text)))
		for _, y := range openings() {
			if strings.HasPrefix(y.text, "if") && !x.begins {
				continue
			}
			s := one + x.text + y.text
			if !x.begins && y.at > 0 || x.text == "a fby " && y.text == "a -> " {
				// What stands ahead is complete where the sign of the second one comes.
				refuseExpr(t, s, at(api.ErrEnd, len(s)))
				continue
			}
			refuseExpr(t, s, at(api.ErrDeep, len(one+x.text)+y.at))
		}
	}
}

// TestWhatDoesNotOpen: what may stand where all that may be open is.
func TestWhatDoesNotOpen(t *testing.T) {
	full, behind := strings.Repeat("(", maxOpen), strings.Repeat(")", maxOpen)
	for s, want := range map[string]string{
		"1": "1", "true": "true", "a + b": "a + b", "a - b": "a - b", "a or b xor c": "(a or b) xor c", "a = b": "a = b", "a when c when not d": "(a when c) when not d", "a * b + c mod d": "(a * b) + (c mod d)",
	} {
		checkExpr(t, full+s+behind, want)
	}
	// What is complete is not open any more.
	full, behind = strings.Repeat("(", maxOpen-1), strings.Repeat(")", maxOpen-1)
	for s, want := range map[string]string{
		"- a - - b": "(-a) - (-b)", "(a) + (b)": "a + b", "- a -> b": "(-a) -> b", "not a fby b": "(not a) fby b", "a fby b -> c": "(a fby b) -> c", "merge(c, a, b) * merge(c, b, a)": "merge(c, a, b) * merge(c, b, a)",
		"(a) -> b": "a -> b", "pre a when c fby b": "(pre (a when c)) fby b", "if a then b else c": "if a then b else c", "- a + (b) * - c -> d": "((-a) + (b * (-c))) -> d", "a -> b": "a -> b",
	} {
		checkExpr(t, full+s+behind, want)
	}
	refuseExpr(t, full+"a -> b -> c", at(api.ErrDeep, len(full+"a -> b ")))
	refuseExpr(t, full+"a fby b fby c", at(api.ErrDeep, len(full+"a fby b ")))
	refuseExpr(t, full+"a -> b fby c", at(api.ErrDeep, len(full+"a -> b ")))
	refuseExpr(t, full+"a -> -b", at(api.ErrDeep, len(full+"a -> ")))
	refuseExpr(t, full+"if a then b else c -> d", at(api.ErrDeep, len(full+"if a then b else c ")))
	refuseExpr(t, full+"if -a", at(api.ErrDeep, len(full+"if ")))
	refuseExpr(t, full+"merge(c, -a", at(api.ErrDeep, len(full+"merge(c, ")))
	refuseExpr(t, full+"merge(c, a, b fby d", at(api.ErrDeep, len(full+"merge(c, a, b ")))
	// Nor are an equation, a call and its arguments.
	list := full + "(a)" + behind
	n := mustNode(t, equation("x = g("+list+", "+list+") every c; y = "+list))
	if len(n.Eqs) != 2 || len(n.Eqs[0].Args) != 2 {
		t.Errorf("%v", n)
	}
	refuseNode(t, equation("x = g("+list+", "+full+"((a"), at(api.ErrDeep, len("node f() returns (x: int); let x = g("+list+", "+full+"(")))
}

// TestNotAllowedWhereAllIsOpen: a token that is not allowed opens nothing.
func TestNotAllowedWhereAllIsOpen(t *testing.T) {
	full := strings.Repeat("(", maxOpen)
	for _, s := range []string{"", "a", "1 +", "a when", "a when not", "a <"} {
		for _, token := range allTokens() {
			compareExpr(t, full+s+" "+token)
		}
	}
	refuseExpr(t, full+"a + if", at(api.ErrWord, maxOpen+4))
	refuseExpr(t, full+"a (", at(api.ErrWord, maxOpen+2))
	refuseExpr(t, full+"a not", at(api.ErrWord, maxOpen+2))
	refuseExpr(t, full+"a when (", at(api.ErrWord, maxOpen+7))
	refuseExpr(t, full+"-> a", at(api.ErrWord, maxOpen))
	refuseExpr(t, full+"a + -> a", at(api.ErrWord, maxOpen+4))
	refuseExpr(t, full, at(api.ErrEnd, maxOpen))
}

// TestMixedOpenings: random ones of all kinds; what stands ahead of a sign, and binds more, is complete.
func TestMixedOpenings(t *testing.T) {
	for seed := range int64(3000) {
		choose := rand.New(rand.NewSource(seed)).Intn
		list := openings()
		if seed%3 == 0 {
			list = list[:6]
		}
		var text strings.Builder
		begins := true
		for range maxOpen + choose(12) - 4 {
			x := list[choose(len(list))]
			if !begins && strings.HasPrefix(x.text, "if") {
				continue
			}
			text.WriteString(x.text)
			begins = x.begins
		}
		compareExpr(t, text.String())
		compareExpr(t, text.String()+"a")
		compareNode(t, equation("x = "+text.String()))
	}
}
