package parse_test

import (
	"slices"
	"strings"
	"testing"

	"pendulum/parse"
)

// TestOneTokenOther: at every place of a text one token too few, one too many, or another one.
func TestOneTokenOther(t *testing.T) {
	for _, s := range []string{sample, equation("x, y = g() every r"), equation("x = f; y = 1")} {
		list := pieces(t, s)
		for i := range list {
			compareNode(t, strings.Join(slices.Delete(slices.Clone(list), i, i+1), " "))
			for _, token := range allTokens() {
				compareNode(t, strings.Join(slices.Insert(slices.Clone(list), i, token), " "))
				other := slices.Clone(list)
				other[i] = token
				compareNode(t, strings.Join(other, " "))
			}
		}
	}
}

func TestOneTokenOtherInExpressions(t *testing.T) {
	for _, s := range []string{
		"a", "a + b * c", "-a", "a when not c", "merge(c, a, b)", "if a then b else c", "a -> b fby c", "(a)",
		"merge(c, if a < b then not pre - a else 1 fby 2, (a or true) when c when not d) -> if a and b = c then 1 else (2 - 3) mod 4 -> 5",
	} {
		list := pieces(t, s)
		for i := range len(list) + 1 {
			compareExpr(t, strings.Join(list[:i], " "))
			for _, token := range allTokens() {
				compareExpr(t, strings.Join(slices.Insert(slices.Clone(list), i, token), " "))
				compareExpr(t, strings.Join(list[:i], " ")+" "+token)
			}
		}
		for i := range list {
			compareExpr(t, strings.Join(slices.Delete(slices.Clone(list), i, i+1), " "))
			for _, token := range allTokens() {
				other := slices.Clone(list)
				other[i] = token
				compareExpr(t, strings.Join(other, " "))
			}
		}
	}
}

// TestAllShortExpressions: all rows of up to three tokens, and of four of the kinds that differ.
func TestAllShortExpressions(t *testing.T) {
	all := allTokens()
	for _, a := range all {
		compareExpr(t, a)
		for _, b := range all {
			compareExpr(t, a+" "+b)
			for _, c := range all {
				compareExpr(t, a+" "+b+" "+c)
			}
		}
	}
	kinds := strings.Fields("a 7 true ( ) , - not if then else merge when -> fby or < + *")
	for _, a := range kinds {
		for _, b := range kinds {
			for _, c := range kinds {
				for _, d := range kinds {
					compareExpr(t, a+" "+b+" "+c+" "+d)
				}
			}
		}
	}
}

// TestSeveralTokensOther: random changes of random texts.
func TestSeveralTokensOther(t *testing.T) {
	for seed := range int64(6000) {
		choose := byChance(seed)
		w := writer{choose: choose}
		if choose(2) == 0 {
			w.expr(choose.expr(1+choose(5)), 0, true, true)
		} else {
			w.node(choose.node())
		}
		s := w.text.String()
		if len(s) > 4000 {
			continue
		}
		list := pieces(t, s)
		for range 1 + choose(3) {
			i, token := choose(len(list)), one(choose, allTokens())
			switch choose(4) {
			case 0:
				list = slices.Insert(list, i, token)
			case 1:
				list[i] = token
			case 2:
				j := choose(len(list))
				list[i], list[j] = list[j], list[i]
			default:
				list = append(slices.Delete(list, i, i+1), "a")
			}
		}
		s = strings.Join(list, " ")
		compareExpr(t, s)
		compareNode(t, s)
	}
}

// TestRowsByChance: tokens in any order.
func TestRowsByChance(t *testing.T) {
	for seed := range int64(8000) {
		choose := byChance(seed)
		var list []string
		for range choose(30) {
			list = append(list, one(choose, allTokens()))
		}
		s := strings.Join(list, " ")
		compareExpr(t, s)
		compareNode(t, s)
		compareNode(t, "node f("+s)
		compareNode(t, "node f() returns (x: int); var "+s)
		compareNode(t, "node f() returns (x: int); let x "+s)
		compareNode(t, "node f() returns (x: int); let x = a("+s)
	}
}

func FuzzParse(f *testing.F) {
	for _, s := range []string{"", sample, "a + b * c", "if a then b else c -> d", "merge(c, a, b) when not d", "node f() returns (x: int); let x = 1; tel", strings.Repeat("(", 49), "a \xff", "(a"} {
		f.Add(s)
	}
	f.Fuzz(func(t *testing.T, s string) {
		compareExpr(t, s)
		compareNode(t, s)
		compareNode(t, equation("x = "+s))
		compareNode(t, "node f() returns (x: int); var "+s)
		if n, err := parse.Node(s); err == nil {
			checkReadBack(t, n)
		}
	})
}

// FuzzReadBack goes from random nodes to their texts and back.
func FuzzReadBack(f *testing.F) {
	f.Add([]byte(nil))
	for seed := range int64(20) {
		b := make([]byte, 80)
		choose := byChance(seed)
		for i := range b {
			b[i] = byte(choose(256))
		}
		f.Add(b)
	}
	f.Fuzz(func(t *testing.T, b []byte) {
		checkReadBack(t, byBytes(b).node())
	})
}
