package text_test

import (
	"math"
	"slices"
	"strings"
	"testing"
	"unicode/utf8"

	"pendulum/api"
	"pendulum/text"
)

const fine = -1

// checkValid holds the error of Valid against the position that is amiss.
func checkValid(t *testing.T, s string, want int) {
	t.Helper()
	err := text.Valid(s)
	if want == fine {
		if err != nil {
			t.Errorf("Valid(%.60q) = %v, want no error", s, err)
		}
		return
	}
	at, ok := err.(*api.At)
	if !ok || at.Pos != want || at.Err != api.ErrRune {
		t.Errorf("Valid(%.60q) = %v, want %d: %v", s, err, want, api.ErrRune)
	}
}

// firstAmiss is the first position of a text that is not too long at which it is not valid.
func firstAmiss(s string) int {
	for pos, piece := range pieces(s) {
		r, _ := utf8.DecodeRuneInString(piece)
		if !utf8.ValidString(piece) || r < 32 && r != 9 && r != 10 || r == 127 {
			return pos
		}
	}
	return fine
}

func TestValidTexts(t *testing.T) {
	for _, s := range []string{
		"", "a", " ", "~", "\t", "\n", "\t\n\t\n", "\u0080", "\u0085", "\u00a0", "é", "A", "λ", "€", "𝄞", "\u2028", "\uffff", "\U0010ffff",
		"\ufffd", "\ufffd\ufffd", "a\ufffdλ\ufffd", "\ufeffa",
		"node f(x: int) returns (y: int);\nlet\n\ty = x + 1; -- λ\ntel\n",
	} {
		checkValid(t, s, fine)
	}
}

func TestFirstPositionThatIsAmiss(t *testing.T) {
	for _, x := range []struct {
		s   string
		pos int
	}{
		{"\x00", 0}, {"\r", 0}, {"\x7f", 0}, {"\xff", 0},
		{"ab\x00", 2}, {"ab\x1fc", 2}, {"a\r\n", 1},
		{"λλ\x7f", 2}, {"λ€𝄞\x00", 3}, {"λ€𝄞\xff", 3}, {"\ufffd\ufffd\xff", 2}, {"\n\t\x0b", 2},
		{"\x00\x7f\xff", 0}, {"a\x7f\xff\x00", 1}, {"aλ\xff\x00\x7f", 2}, {"\xff\x00", 0}, {"\x00\xff", 0}, {"€\xff\xff", 1},
		{"\ufffd\xef\xbf", 1}, {"\xef\xbf\ufffd", 0}, {"\xef\xbf\xbd\xbd", 1},
	} {
		checkValid(t, x.s, x.pos)
	}
}

func TestWrongBytesAtEveryKindOfPlace(t *testing.T) {
	for _, p := range wrongPieces() {
		checkValid(t, p, 0)
		checkValid(t, p+"abc", 0)
		checkValid(t, p+" λ€𝄞", 0)
		checkValid(t, "abc"+p, 3)
		checkValid(t, "𝄞€λ "+p, 4)
		checkValid(t, "λ\n"+p+"\n€", 2)
		checkValid(t, "\ufffd"+p+"\ufffd", 1)
		checkValid(t, "€ "+p+" "+p, 2)
	}
}

func TestEncodingsThatAreCutOff(t *testing.T) {
	for _, r := range []string{"é", "λ", "€", "\ufffd", "𝄞", "\U0010ffff"} {
		for size := 1; size < len(r); size++ {
			checkValid(t, r[:size], 0)
			checkValid(t, "aλ"+r[:size], 2)
			checkValid(t, "aλ"+r[:size]+r, 2)
			checkValid(t, r+r[:size]+"a", 1)
			checkValid(t, r+r[size:], 1)
		}
	}
}

func TestValidOfEveryRune(t *testing.T) {
	for r := rune(0); r <= utf8.MaxRune; r++ {
		if !utf8.ValidRune(r) {
			continue
		}
		s := string(r)
		if r < 32 && r != '\t' && r != '\n' || r == 127 {
			checkValid(t, s, 0)
			checkValid(t, "λ"+s, 1)
			checkValid(t, "€\n"+s+"a", 2)
		} else {
			checkValid(t, s, fine)
		}
	}
}

func TestValidOfAllStringsOfTwoBytes(t *testing.T) {
	for a := range 256 {
		for b := range 256 {
			s := string([]byte{byte(a), byte(b)})
			checkValid(t, s, firstAmiss(s))
		}
	}
}

func TestValidOfSomeStrings(t *testing.T) {
	for _, s := range someStrings() {
		checkValid(t, s, firstAmiss(s))
	}
}

func TestValidLengths(t *testing.T) {
	const most = api.MaxText
	for _, s := range []string{
		strings.Repeat("a", most-1),
		strings.Repeat("a", most),
		strings.Repeat("\n", most),
		strings.Repeat("λ", most/2),
		strings.Repeat("€", most/3) + "a",
		strings.Repeat("𝄞", most/4),
		strings.Repeat("\ufffd", most/3) + "a",
	} {
		checkValid(t, s, fine)
	}
	checkValid(t, strings.Repeat("a", most-1)+"\x00", most-1)
	checkValid(t, strings.Repeat("a", most-1)+"\xff", most-1)
	checkValid(t, strings.Repeat("a", most-1)+"\x7f", most-1)
	checkValid(t, strings.Repeat("λ", most/2-1)+"a\xce", most/2)
	checkValid(t, strings.Repeat("𝄞", most/4-1)+"\xf0\x9d\x84a", most/4-1)
	checkValid(t, strings.Repeat("\xff", most), 0)
}

func TestValidOfTooManyBytes(t *testing.T) {
	const most = api.MaxText
	for _, s := range []string{
		strings.Repeat("a", most+1),
		strings.Repeat("\n", most+1),
		strings.Repeat("λ", most/2) + "a",
		strings.Repeat("λ", most/2+1),
		strings.Repeat("𝄞", most/4) + "a",
		strings.Repeat("\xff", most+1),
		"\x00" + strings.Repeat("a", most),
		"\xff" + strings.Repeat("a", most),
		"\x7f" + strings.Repeat("a", most),
		strings.Repeat("a", most) + "\x00",
		strings.Repeat("a", most) + "\xff",
		strings.Repeat("𝄞", most/4) + "\xff",
		strings.Repeat("a", 1<<20),
	} {
		if err := text.Valid(s); err != api.ErrMany {
			t.Errorf("Valid of %d bytes, %.10q..: %v, want %v alone", len(s), s, err, api.ErrMany)
		}
	}
}

// What a caller does with an error must not be seen in the next one.
func TestErrorsAreNotShared(t *testing.T) {
	first := text.Valid("a\xff").(*api.At)
	first.Pos, first.Err = 99, api.ErrMany
	checkValid(t, "a\xff", 1)
	checkValid(t, "λλ\xff", 2)
}

// letters, digits and blanks are written out by their numbers.
func letters() []rune {
	var list []rune
	for r := rune(0x61); r <= 0x7a; r++ {
		list = append(list, r)
	}
	for r := rune(0x3b1); r <= 0x3c9; r++ {
		list = append(list, r)
	}
	return list
}

func digits() []rune {
	return []rune{0x30, 0x31, 0x32, 0x33, 0x34, 0x35, 0x36, 0x37, 0x38, 0x39}
}

func blanks() []rune {
	return []rune{0x20, 0x09, 0x0a}
}

func TestKindsOfEveryRune(t *testing.T) {
	check := func(r rune) {
		t.Helper()
		if got := text.Letter(r); got != slices.Contains(letters(), r) {
			t.Errorf("Letter(%#x) = %v", r, got)
		}
		if got := text.Digit(r); got != slices.Contains(digits(), r) {
			t.Errorf("Digit(%#x) = %v", r, got)
		}
		if got := text.Blank(r); got != slices.Contains(blanks(), r) {
			t.Errorf("Blank(%#x) = %v", r, got)
		}
	}
	for r := rune(-300); r < 0x3000; r++ {
		check(r)
	}
	// Runes of which some lower bits are those of a letter, a digit or a blank, and numbers that are no runes.
	for _, r := range slices.Concat(letters(), digits(), blanks()) {
		for _, more := range []rune{0x10000, 0x20000, 0xff00, 0x100000, 0x1000000, 0x40000000, math.MinInt32} {
			check(r + more)
		}
		check(-r)
	}
	for _, r := range []rune{0x3000, 0xff10, 0xff41, 0xfffd, 0xfeff, 0xd800, 0xdfff, 0x1d6c2, utf8.MaxRune, utf8.MaxRune + 1, math.MinInt32, math.MaxInt32} {
		check(r)
	}
}

func TestEdgesOfTheKinds(t *testing.T) {
	for _, x := range []struct {
		r                    rune
		letter, digit, blank bool
	}{
		{'`', false, false, false}, {'a', true, false, false}, {'m', true, false, false}, {'z', true, false, false}, {'{', false, false, false},
		{'A', false, false, false}, {'Z', false, false, false}, {'_', false, false, false},
		{0x3b0, false, false, false}, {0x3b1, true, false, false}, {0x3c2, true, false, false}, {0x3c9, true, false, false}, {0x3ca, false, false, false},
		{0x391, false, false, false}, {0x3a9, false, false, false},
		{'/', false, false, false}, {'0', false, true, false}, {'5', false, true, false}, {'9', false, true, false}, {':', false, false, false},
		{0x660, false, false, false},
		{' ', false, false, true}, {'\t', false, false, true}, {'\n', false, false, true},
		{'\r', false, false, false}, {'\v', false, false, false}, {'\f', false, false, false}, {0x85, false, false, false}, {0xa0, false, false, false}, {0x2028, false, false, false}, {0x3000, false, false, false},
		{8, false, false, false}, {11, false, false, false}, {31, false, false, false}, {33, false, false, false}, {0, false, false, false}, {-1, false, false, false},
	} {
		if text.Letter(x.r) != x.letter || text.Digit(x.r) != x.digit || text.Blank(x.r) != x.blank {
			t.Errorf("%#x: Letter %v, Digit %v, Blank %v", x.r, text.Letter(x.r), text.Digit(x.r), text.Blank(x.r))
		}
	}
}

func FuzzValid(f *testing.F) {
	f.Add("node f(x: int) returns (y: int); λ\xff")
	f.Add("\ufffd\xef\xbf\x7f")
	f.Fuzz(func(t *testing.T, s string) {
		if len(s) > api.MaxText {
			if err := text.Valid(s); err != api.ErrMany {
				t.Errorf("Valid of %d bytes = %v", len(s), err)
			}
			return
		}
		checkValid(t, s, firstAmiss(s))
	})
}
