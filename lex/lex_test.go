package lex_test

import (
	"math"
	"strconv"
	"strings"
	"testing"

	"pendulum/api"
	"pendulum/lex"
	"pendulum/text"
)

// signs are written out once more, as the chapter has them.
func signs() []string {
	return strings.Fields("( ) , : ; = <> < <= > >= + - * / ->")
}

func end(pos int) lex.Token            { return lex.Token{Kind: 0, Pos: pos} }
func name(pos int, s string) lex.Token { return lex.Token{Kind: 1, Pos: pos, Text: s} }
func word(pos int, s string) lex.Token { return lex.Token{Kind: 2, Pos: pos, Text: s} }
func sign(pos int, s string) lex.Token { return lex.Token{Kind: 4, Pos: pos, Text: s} }

func number(pos int, n int64) lex.Token {
	return lex.Token{Kind: 3, Pos: pos, Text: strconv.FormatInt(n, 10), N: n}
}

func tokens(list ...lex.Token) want { return want{ahead: list} }

// fails is an error at a position, behind the tokens that stand ahead of it.
func fails(err error, pos int, ahead ...lex.Token) want {
	return want{ahead: ahead, err: err, pos: pos}
}

func TestKinds(t *testing.T) {
	if lex.End != 0 || lex.Name != 1 || lex.Word != 2 || lex.Number != 3 || lex.Sign != 4 {
		t.Error(lex.End, lex.Name, lex.Word, lex.Number, lex.Sign)
	}
}

func TestExample(t *testing.T) {
	check(t, "a<=1", tokens(name(0, "a"), sign(1, "<="), number(3, 1), end(4)))
}

func TestNode(t *testing.T) {
	check(t, "node f(x: int)\nreturns (λ: bool); -- €\nlet\n\tλ = x <> 10;\ntel\n", tokens(
		word(0, "node"), name(5, "f"), sign(6, "("), name(7, "x"), sign(8, ":"), word(10, "int"), sign(13, ")"),
		word(15, "returns"), sign(23, "("), name(24, "λ"), sign(25, ":"), word(27, "bool"), sign(31, ")"), sign(32, ";"),
		word(39, "let"),
		name(44, "λ"), sign(46, "="), name(48, "x"), sign(50, "<>"), number(53, 10), sign(55, ";"),
		word(57, "tel"), end(61)))
}

func TestNothingButBlanksAndComments(t *testing.T) {
	for _, s := range []string{
		"", " ", "\t", "\n", " \t\n\n\t ", strings.Repeat(" ", api.MaxText), strings.Repeat("\n", api.MaxText),
		"--", "--\n", "-- a", "-- a\n", "--a\n--b", "--a\n--b\n", "---", "----", "-->", "-->a", "--->", "--\n--", "--\n\n--\n", "--\t\n \t--",
		" --", "\n--", "\t-- _ A ! 01 1a 9223372036854775808\n ", "-- " + strings.Repeat("a", 100), "--" + strings.Repeat("λ", api.MaxText/2-1),
		"-- λ€𝄞\ufffd", "-- λ€𝄞\ufffd\n", "--é\u0080\u00a0\u2028\u0085", strings.Repeat("--\n", api.MaxText/3), strings.Repeat("-", api.MaxText),
	} {
		check(t, s, tokens(end(text.Count(s))))
	}
}

func TestComments(t *testing.T) {
	for _, x := range []struct {
		s string
		w want
	}{
		{"a--", tokens(name(0, "a"), end(3))},
		{"a--b", tokens(name(0, "a"), end(4))},
		{"a--b\n", tokens(name(0, "a"), end(5))},
		{"a--b\nc", tokens(name(0, "a"), name(5, "c"), end(6))},
		{"a --b--c\nd", tokens(name(0, "a"), name(9, "d"), end(10))},
		{"--a\nb", tokens(name(4, "b"), end(5))},
		{"--\na", tokens(name(3, "a"), end(4))},
		{"--\n--\na", tokens(name(6, "a"), end(7))},
		{"--\n1--\n", tokens(number(3, 1), end(7))},
		{"1--2", tokens(number(0, 1), end(4))},
		{"1--_\n_", fails(api.ErrRune, 5, number(0, 1))},
		{"if--then\nthen", tokens(word(0, "if"), word(9, "then"), end(13))},
		{"(--)\n)", tokens(sign(0, "("), sign(5, ")"), end(6))},
		{"a_--b", tokens(name(0, "a_"), end(5))},
		{"-- \u2028a\nb", tokens(name(6, "b"), end(7))},
		{"--\ta\tb\n\tc", tokens(name(8, "c"), end(9))},
	} {
		check(t, x.s, x.w)
	}
}

func TestMinusArrowAndComment(t *testing.T) {
	for _, x := range []struct {
		s string
		w want
	}{
		{"-", tokens(sign(0, "-"), end(1))},
		{"- -", tokens(sign(0, "-"), sign(2, "-"), end(3))},
		{"-\n-", tokens(sign(0, "-"), sign(2, "-"), end(3))},
		{"- --", tokens(sign(0, "-"), end(4))},
		{"---\n-", tokens(sign(4, "-"), end(5))},
		{"--\n-", tokens(sign(3, "-"), end(4))},
		{"--\n->", tokens(sign(3, "->"), end(5))},
		{"->", tokens(sign(0, "->"), end(2))},
		{"- >", tokens(sign(0, "-"), sign(2, ">"), end(3))},
		{"->-", tokens(sign(0, "->"), sign(2, "-"), end(3))},
		{"->->", tokens(sign(0, "->"), sign(2, "->"), end(4))},
		{"->--", tokens(sign(0, "->"), end(4))},
		{"->-->", tokens(sign(0, "->"), end(5))},
		{"->>", tokens(sign(0, "->"), sign(2, ">"), end(3))},
		{"->=", tokens(sign(0, "->"), sign(2, "="), end(3))},
		{"->>=", tokens(sign(0, "->"), sign(2, ">="), end(4))},
		{"- ->", tokens(sign(0, "-"), sign(2, "->"), end(4))},
		{"-->\n->-", tokens(sign(4, "->"), sign(6, "-"), end(7))},
		{">-", tokens(sign(0, ">"), sign(1, "-"), end(2))},
		{"<-", tokens(sign(0, "<"), sign(1, "-"), end(2))},
		{"<--", tokens(sign(0, "<"), end(3))},
		{"<->", tokens(sign(0, "<"), sign(1, "->"), end(3))},
		{"=--\n=", tokens(sign(0, "="), sign(4, "="), end(5))},
		{"1-1", tokens(number(0, 1), sign(1, "-"), number(2, 1), end(3))},
		{"-1", tokens(sign(0, "-"), number(1, 1), end(2))},
		{"a->b", tokens(name(0, "a"), sign(1, "->"), name(3, "b"), end(4))},
		{"a-b", tokens(name(0, "a"), sign(1, "-"), name(2, "b"), end(3))},
	} {
		check(t, x.s, x.w)
	}
}

func TestKeywords(t *testing.T) {
	for _, k := range keywords() {
		n := len(k)
		check(t, k, tokens(word(0, k), end(n)))
		check(t, "("+k+"\n", tokens(sign(0, "("), word(1, k), end(n+2)))
		check(t, k+"--", tokens(word(0, k), end(n+2)))
		check(t, k+" "+k, tokens(word(0, k), word(n+1, k), end(2*n+1)))
		for _, more := range []string{"a", "z", "q", "0", "9", "_", "λ", "_1", k} {
			check(t, k+more, tokens(name(0, k+more), end(text.Count(k+more))))
		}
		for _, more := range []string{"a", "q", "λ"} {
			if !lex.Is(more + k) {
				check(t, more+k, tokens(name(0, more+k), end(n+1)))
			}
		}
		check(t, "_"+k, fails(api.ErrRune, 0))
		check(t, "1"+k, fails(api.ErrNumber, 0))
		check(t, k+"A", fails(api.ErrRune, n, word(0, k)))
		check(t, strings.ToUpper(k), fails(api.ErrRune, 0))
	}
	for _, k := range keywords() {
		for i := range k {
			less := k[:i] + k[i+1:]
			if less == "or" { // of xor
				check(t, less, tokens(word(0, less), end(2)))
			} else {
				check(t, less, tokens(name(0, less), end(len(less))))
			}
		}
	}
}

func TestNames(t *testing.T) {
	for _, s := range []string{"a", "z", "α", "ω", "ς", "λ1", "x_", "x__", "a_1z", "a0", "a9", "z09_", "λ_μ", "aω", "ωa", "a01", "x9223372036854775808"} {
		n := text.Count(s)
		check(t, s, tokens(name(0, s), end(n)))
		check(t, " "+s+" ", tokens(name(1, s), end(n+2)))
		check(t, s+","+s, tokens(name(0, s), sign(n, ","), name(n+1, s), end(2*n+1)))
		check(t, s+"-- "+s+"\n", tokens(name(0, s), end(2*n+4)))
	}
	check(t, "aé", fails(api.ErrRune, 1, name(0, "a")))
	check(t, "λB", fails(api.ErrRune, 1, name(0, "λ")))
	check(t, "a\u03b0", fails(api.ErrRune, 1, name(0, "a")))
	check(t, "a\u03ca", fails(api.ErrRune, 1, name(0, "a")))
	check(t, "\u03b0", fails(api.ErrRune, 0))
	check(t, "\u03ca", fails(api.ErrRune, 0))
	check(t, "a\u0660", fails(api.ErrRune, 1, name(0, "a")))
}

func TestLengthsOfNames(t *testing.T) {
	most := api.MaxName
	for n := 1; n <= 3*most; n++ {
		for _, s := range []string{
			strings.Repeat("a", n), strings.Repeat("λ", n), "a" + strings.Repeat("λ", n), "λ" + strings.Repeat("a", n), "λ" + strings.Repeat("7", n), "a" + strings.Repeat("_", n),
		} {
			count := text.Count(s)
			if len(s) <= most {
				check(t, s, tokens(name(0, s), end(count)))
				check(t, "λ "+s+"+", tokens(name(0, "λ"), name(2, s), sign(2+count, "+"), end(count+3)))
				continue
			}
			check(t, s, fails(api.ErrMany, 0))
			check(t, "λ "+s+"+", fails(api.ErrMany, 2, name(0, "λ")))
			check(t, "-- λ€𝄞\n1 "+s+"A", fails(api.ErrMany, 9, number(7, 1)))
		}
	}
	check(t, strings.Repeat("λ", most/2), tokens(name(0, strings.Repeat("λ", most/2)), end(most/2)))
	check(t, strings.Repeat("λ", most/2)+"a", fails(api.ErrMany, 0))
	check(t, strings.Repeat("a", most-1)+"λ", fails(api.ErrMany, 0))
	check(t, strings.Repeat("a", api.MaxText), fails(api.ErrMany, 0))
	check(t, "node "+strings.Repeat("returns", 4), fails(api.ErrMany, 5, word(0, "node")))
	check(t, strings.Repeat("a", most)+" "+strings.Repeat("b", most), tokens(name(0, strings.Repeat("a", most)), name(most+1, strings.Repeat("b", most)), end(2*most+1)))
}

func TestNumbers(t *testing.T) {
	for _, n := range []int64{0, 1, 9, 10, 11, 90, 99, 100, 1000000, math.MaxInt32, math.MaxInt32 + 1, math.MaxUint32, math.MaxInt64 - 1, math.MaxInt64} {
		w := number(0, n)
		k := len(w.Text)
		check(t, w.Text, tokens(w, end(k)))
		check(t, w.Text+"\n", tokens(w, end(k+1)))
		check(t, w.Text+")+", tokens(w, sign(k, ")"), sign(k+1, "+"), end(k+2)))
		check(t, w.Text+"--1", tokens(w, end(k+3)))
		check(t, "λ "+w.Text, tokens(name(0, "λ"), number(2, n), end(k+2)))
		for _, more := range []string{"a", "z", "α", "ω", "λ", "_", "_1", "a1", "if", "x "} {
			check(t, w.Text+more, fails(api.ErrNumber, 0))
			check(t, "λ-"+w.Text+more, fails(api.ErrNumber, 2, name(0, "λ"), sign(1, "-")))
		}
		for _, more := range []string{"A", "é", "!", ".", "\ufffd", "\u0660", "'"} {
			check(t, w.Text+more, fails(api.ErrRune, k, w))
		}
		if n > 0 {
			check(t, "0"+w.Text, fails(api.ErrNumber, 0))
			check(t, " 0"+w.Text, fails(api.ErrNumber, 1))
		}
	}
	check(t, "0 10 9223372036854775807", tokens(number(0, 0), number(2, 10), number(5, math.MaxInt64), end(24)))
}

func TestNumbersThatAreNone(t *testing.T) {
	for _, s := range []string{
		"00", "01", "007", "0000000000", "00000000000000000000000000001", "00a", "01_",
		"9223372036854775808", "9223372036854775809", "9223372036854775810", "9999999999999999999", "10000000000000000000",
		"18446744073709551615", "18446744073709551616", "18446744073709551617", "36893488147419103233", "92233720368547758070",
		"1" + strings.Repeat("0", 100), strings.Repeat("9", api.MaxText-9), strings.Repeat("0", api.MaxText-9),
		"9223372036854775808a", "9223372036854775808!", "0x1f", "1e5", "0b1", "0o7", "1_000", "0_",
	} {
		check(t, s, fails(api.ErrNumber, 0))
		check(t, s+" ", fails(api.ErrNumber, 0))
		check(t, "λ +"+s+" A", fails(api.ErrNumber, 3, name(0, "λ"), sign(2, "+")))
		check(t, "7 "+s, fails(api.ErrNumber, 2, number(0, 7)))
	}
}

func TestEverySign(t *testing.T) {
	for _, s := range signs() {
		n := len(s)
		check(t, s, tokens(sign(0, s), end(n)))
		check(t, " "+s+"\t", tokens(sign(1, s), end(n+2)))
		check(t, "λ"+s+"λ", tokens(name(0, "λ"), sign(1, s), name(n+1, "λ"), end(n+2)))
		check(t, "1"+s+"2", tokens(number(0, 1), sign(1, s), number(n+1, 2), end(n+2)))
		check(t, s+" "+s, tokens(sign(0, s), sign(n+1, s), end(2*n+1)))
		check(t, s+"_", fails(api.ErrRune, n, sign(0, s)))
		if n == 2 {
			for _, gap := range []string{" ", "\n", "\t ", " --\n"} {
				check(t, s[:1]+gap+s[1:], tokens(sign(0, s[:1]), sign(1+len(gap), s[1:]), end(2+len(gap))))
			}
		}
	}
}

func TestSignsInARow(t *testing.T) {
	for s, list := range map[string][]string{
		"<<=>>=<>": {"<", "<=", ">", ">=", "<>"},
		"<=>":      {"<=", ">"},
		"<=>=":     {"<=", ">="},
		"<>=":      {"<>", "="},
		"<>>":      {"<>", ">"},
		"<>>=":     {"<>", ">="},
		"<<>>":     {"<", "<>", ">"},
		"<<<":      {"<", "<", "<"},
		"><":       {">", "<"},
		"><>":      {">", "<>"},
		">>=":      {">", ">="},
		">=<":      {">=", "<"},
		">==":      {">=", "="},
		"<==":      {"<=", "="},
		"==":       {"=", "="},
		"=<":       {"=", "<"},
		"=>":       {"=", ">"},
		"=<=":      {"=", "<="},
		"=>=":      {"=", ">="},
		"=<>":      {"=", "<>"},
		"=->":      {"=", "->"},
		"=-":       {"=", "-"},
		"<->":      {"<", "->"},
		"->->-":    {"->", "->", "-"},
		"->=":      {"->", "="},
		">->":      {">", "->"},
		"+-+":      {"+", "-", "+"},
		"*/*":      {"*", "/", "*"},
		"//":       {"/", "/"},
		"**":       {"*", "*"},
		"(),:;":    {"(", ")", ",", ":", ";"},
		"::==":     {":", ":", "=", "="},
		":=":       {":", "="},
	} {
		var w want
		pos := 0
		for _, x := range list {
			w.ahead = append(w.ahead, sign(pos, x))
			pos += len(x)
		}
		w.ahead = append(w.ahead, end(pos))
		check(t, s, w)
	}
}

// All signs next to one another: two of them are one longer sign, a comment, or two.
func TestPairsOfSigns(t *testing.T) {
	p := newPatterns()
	grow("", 3, signs(), func(s string) { check(t, s, p.model(s)) })
}

func TestRunesThatBeginNothing(t *testing.T) {
	for _, s := range []string{
		"_", "_a", "__", "_1", "A", "Z", "!", "\"", "#", "$", "%", "&", "'", ".", "?", "@", "[", "\\", "]", "^", "`", "{", "|", "}", "~",
		"\u0080", "\u0085", "\u00a0", "é", "Λ", "Ω", "\u03b0", "\u03ca", "\u0660", "\u2028", "\u3000", "€", "\ufeff", "\ufffd", "𝄞", "\U0010ffff",
	} {
		check(t, s, fails(api.ErrRune, 0))
		check(t, s+" a", fails(api.ErrRune, 0))
		check(t, "--"+s+"\n"+s, fails(api.ErrRune, 3+text.Count(s)))
		check(t, "λ; "+s, fails(api.ErrRune, 3, name(0, "λ"), sign(1, ";")))
		check(t, "-"+s, fails(api.ErrRune, 1, sign(0, "-")))
		check(t, "<"+s+"=", fails(api.ErrRune, 1, sign(0, "<")))
		check(t, "--"+s, tokens(end(2+text.Count(s))))
	}
	check(t, "a _", fails(api.ErrRune, 2, name(0, "a")))
	check(t, "a;A", fails(api.ErrRune, 2, name(0, "a"), sign(1, ";")))
	check(t, "! 01", fails(api.ErrRune, 0))
	check(t, "01 !", fails(api.ErrNumber, 0))
}

func TestPositionsCountRunes(t *testing.T) {
	for _, r := range []string{"a", "λ", "€", "𝄞", "\ufffd", "aλ€𝄞", "€€", "\U0010ffff"} {
		n := text.Count(r)
		check(t, "--"+r+"\nx", tokens(name(n+3, "x"), end(n+4)))
		check(t, "y--"+r+"\n12->--"+r, tokens(name(0, "y"), number(n+4, 12), sign(n+6, "->"), end(2*n+10)))
		check(t, "--"+r+"\n_", fails(api.ErrRune, n+3))
		check(t, "--"+r+"\n01", fails(api.ErrNumber, n+3))
		check(t, "--"+r+"\n"+strings.Repeat("λ", 13), fails(api.ErrMany, n+3))
		check(t, "--"+r+"\n\x01", fails(api.ErrRune, n+3))
		check(t, "--"+r+"\n\xff", fails(api.ErrRune, n+3))
	}
	check(t, "λμ ν", tokens(name(0, "λμ"), name(3, "ν"), end(4)))
}

func TestErrorOfTheWholeTextPrecedesAll(t *testing.T) {
	for _, ahead := range []string{"", "a ", "λ+1 ", "_", "A", "01 ", "1a", "9223372036854775808 ", strings.Repeat("λ", 13) + " ", "-- ", "--€\n"} {
		for _, wrong := range []string{"\x00", "\x01", "\x08", "\x0b", "\r", "\x1f", "\x7f", "\xff", "\xce", "\xe2\x82", "\xed\xa0\x80"} {
			pos := text.Count(ahead)
			check(t, ahead+wrong, fails(api.ErrRune, pos))
			check(t, ahead+wrong+" _ 01", fails(api.ErrRune, pos))
			check(t, ahead+wrong+"\x00\xff", fails(api.ErrRune, pos))
		}
	}
	check(t, "a\r\nb", fails(api.ErrRune, 1))
	check(t, "-- \x7f\na", fails(api.ErrRune, 3))
}

func TestTooManyBytes(t *testing.T) {
	const most = api.MaxText
	for _, s := range []string{
		strings.Repeat(" ", most+1), strings.Repeat("a", most+1), strings.Repeat("a ", most/2) + " ", strings.Repeat("\xff", most+1), "_" + strings.Repeat(" ", most),
		"01" + strings.Repeat(" ", most), "\x00" + strings.Repeat(" ", most), strings.Repeat(" ", most) + "\x00", "--" + strings.Repeat("λ", most/2), strings.Repeat("a", 1<<20),
	} {
		check(t, s, fails(api.ErrMany, alone))
	}
	var w want
	for i := range most {
		w.ahead = append(w.ahead, sign(i, "("))
	}
	w.ahead = append(w.ahead, end(most))
	check(t, strings.Repeat("(", most), w)
	check(t, strings.Repeat("(", most-1)+"_", fails(api.ErrRune, most-1, w.ahead[:most-1]...))
	check(t, strings.Repeat(" ", most-2)+"λ", tokens(name(most-2, "λ"), end(most-1)))
}

func TestTextStandsAtItsPosition(t *testing.T) {
	for _, s := range []string{
		"", "a<=1", "λx -- €𝄞\n<>->- if ω12+0", "node f(x, λ: int) returns (y: bool);\nlet -- 𝄞\n\ty = x >= λ;\ntel", "((1))--\ufffd\n9223372036854775807 mod λ_1",
	} {
		list, err := lex.All(s)
		if err != nil {
			t.Fatal(s, err)
		}
		from := 0
		for i, x := range list {
			if x.Pos < from || text.Cut(s, x.Pos, x.Pos+text.Count(x.Text)) != x.Text || (x.Text == "") != (x.Kind == lex.End) {
				t.Errorf("%q: %v", s, x)
			}
			if (x.Kind == lex.End) != (i == len(list)-1) {
				t.Errorf("%q: token %d of %d is %v", s, i, len(list), x)
			}
			from = x.Pos + text.Count(x.Text)
		}
		if last := list[len(list)-1]; last != end(text.Count(s)) {
			t.Errorf("%q: the last token is %v", s, last)
		}
	}
}
