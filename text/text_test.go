package text_test

import (
	"math"
	"math/rand"
	"slices"
	"strings"
	"testing"
	"unicode/utf8"

	"pendulum/text"
)

// wrongPieces are no valid encodings: each of their bytes is a rune of its own.
func wrongPieces() []string {
	return []string{
		"\x80", "\xbf", "\xc0", "\xc1", "\xc3", "\xce", "\xe2", "\xef", "\xf0", "\xf4", "\xf5", "\xf8", "\xfe", "\xff",
		"\xff\xff", "\x80\x80\x80", "\xff\xfe\xfd\xfc\xfb", // several in a row
		"\xe2\x82", "\xef\xbf", "\xf0\x9d", "\xf0\x9d\x84", // cut off
		"\xc0\x80", "\xc1\xa1", "\xe0\x80\x80", "\xe0\x9f\xbf", "\xf0\x80\x80\x80", "\xf0\x8f\xbf\xbf", // longer than they have to be
		"\xed\xa0\x80", "\xed\xbf\xbf", // surrogates
		"\xf4\x90\x80\x80", "\xf7\xbf\xbf\xbf", // beyond the last rune
	}
}

// someStrings have runes of one to four bytes, line feeds, wrong bytes at every kind of place, and all bytes.
func someStrings() []string {
	list := []string{
		"", "a", "\n", "λ", "€", "𝄞", "\ufffd", "\xff",
		"a\nbc", "abc", "λμν", "€€", "𝄞𝄞", "aλ€𝄞", "𝄞€λa",
		"\n\n\n", "a\n", "\na", "a\n\nb\n\n\nc", "αβ\n€\n𝄞𝄞\n", "\r\n\r\n", "\u0085\u2028\u2029", "\n\xff\n\ufffd\n",
		"\ufffd\ufffd", "\ufffd\xff\ufffd", "\x00\x00", "e\u0301", "\xef\xbb\xbfx",
		"node f(x: int) returns (y: int);\nlet\n\ty = x + 1;\ntel\n",
	}
	for _, p := range wrongPieces() {
		list = append(list, p, p+"a", "a"+p, "λ"+p+"€", p+"\n"+p, "\n"+p, p+"𝄞"+p+"\n")
	}
	for c := range 256 {
		list = append(list, string([]byte{byte(c)}), string([]byte{'a', byte(c), 'b'}))
	}
	return append(list, randomStrings(300)...)
}

// randomStrings are put together of pieces of all kinds.
func randomStrings(n int) []string {
	pieces := append(wrongPieces(), "a", "z", "0", "_", " ", "\t", "\n", "\n", "\n", "λ", "ω", "€", "𝄞", "\ufffd", "\x00", "\x1f", "\x7f")
	random := rand.New(rand.NewSource(5))
	var list []string
	for range n {
		var b strings.Builder
		for range random.Intn(12) {
			b.WriteString(pieces[random.Intn(len(pieces))])
		}
		list = append(list, b.String())
	}
	return list
}

// pieces are the bytes of each rune of s.
func pieces(s string) []string {
	var list []string
	for s != "" {
		_, size := utf8.DecodeRuneInString(s)
		list = append(list, s[:size])
		s = s[size:]
	}
	return list
}

// somePositions are those of a text of n runes, those next to them, and the least and the greatest integers.
func somePositions(n int) []int {
	list := []int{math.MinInt, math.MinInt + 1, math.MinInt32, -1000, math.MaxInt32, math.MaxInt - 1, math.MaxInt}
	for pos := -3; pos <= n+3; pos++ {
		list = append(list, pos)
	}
	return list
}

// collect is what a loop over the runes of s gets; the positions must be 0, 1, ..
func collect(t *testing.T, s string, each func(func(int, rune) bool)) []rune {
	t.Helper()
	var list []rune
	for pos, r := range each {
		if pos != len(list) {
			t.Errorf("Runes(%q): position %d, want %d", s, pos, len(list))
		}
		list = append(list, r)
	}
	return list
}

func TestRunesExamples(t *testing.T) {
	for _, x := range []struct {
		s    string
		want []rune
	}{
		{"", nil},
		{"a", []rune{97}},
		{"aλ€𝄞b", []rune{97, 0x3bb, 0x20ac, 0x1d11e, 98}},
		{"a\nb\t", []rune{97, 10, 98, 9}},
		{"\xff", []rune{0xfffd}},
		{"\xff\xfe\x80", []rune{0xfffd, 0xfffd, 0xfffd}},
		{"\xffa", []rune{0xfffd, 97}},
		{"a\xff", []rune{97, 0xfffd}},
		{"λ\xff€", []rune{0x3bb, 0xfffd, 0x20ac}},
		{"a\xce", []rune{97, 0xfffd}},
		{"\xe2\x82", []rune{0xfffd, 0xfffd}},
		{"\xe2\x82a", []rune{0xfffd, 0xfffd, 97}},
		{"\xf0\x9d\x84", []rune{0xfffd, 0xfffd, 0xfffd}},
		{"\xed\xa0\x80", []rune{0xfffd, 0xfffd, 0xfffd}},
		{"\ufffd", []rune{0xfffd}},
		{"\ufffd\xef\xbf", []rune{0xfffd, 0xfffd, 0xfffd}},
	} {
		if got := collect(t, x.s, text.Runes(x.s)); !slices.Equal(got, x.want) {
			t.Errorf("Runes(%q) = %x, want %x", x.s, got, x.want)
		}
		if got := text.Count(x.s); got != len(x.want) {
			t.Errorf("Count(%q) = %d, want %d", x.s, got, len(x.want))
		}
	}
}

func TestRunesAreThoseOfARangeLoop(t *testing.T) {
	for _, s := range someStrings() {
		var want []rune
		for _, r := range s {
			want = append(want, r)
		}
		if got := collect(t, s, text.Runes(s)); !slices.Equal(got, want) {
			t.Errorf("Runes(%q) = %x, want %x", s, got, want)
		}
		if got := text.Count(s); got != len(want) {
			t.Errorf("Count(%q) = %d, want %d", s, got, len(want))
		}
	}
}

func TestCountOfLongStrings(t *testing.T) {
	const n = 1 << 20
	for _, piece := range []string{"a", "\n", "λ", "€", "𝄞", "\xff", "\ufffd"} {
		if got := text.Count(strings.Repeat(piece, n)); got != n {
			t.Errorf("Count of %d times %q = %d", n, piece, got)
		}
	}
}

func TestRunesCanBeUsedSeveralTimes(t *testing.T) {
	for _, s := range someStrings() {
		each := text.Runes(s)
		want := collect(t, s, each)
		for range 3 {
			if got := collect(t, s, each); !slices.Equal(got, want) {
				t.Errorf("Runes(%q) another time = %x, want %x", s, got, want)
			}
		}
	}
}

// One iterator in a loop within its own loop: neither may disturb the other.
func TestRunesWithinTheirOwnLoop(t *testing.T) {
	const s = "a\xffλ\n€𝄞"
	each := text.Runes(s)
	want := []rune(s)
	var outer []rune
	for pos, r := range each {
		if pos != len(outer) {
			t.Errorf("outer position %d, want %d", pos, len(outer))
		}
		outer = append(outer, r)
		if inner := collect(t, s, each); !slices.Equal(inner, want) {
			t.Errorf("the loop within, at %d: %x", pos, inner)
		}
		for range each {
			break
		}
	}
	if !slices.Equal(outer, want) {
		t.Errorf("the outer loop: %x, want %x", outer, want)
	}
}

func TestLoopsThatEndEarly(t *testing.T) {
	for _, s := range []string{"a", "abcd", "aλ€𝄞", "\xff\xff\xff", "λ\xffa\n\ufffd"} {
		each := text.Runes(s)
		want := []rune(s)
		for last := range want {
			var got []rune
			for pos, r := range each {
				got = append(got, r)
				if pos == last {
					break
				}
			}
			if !slices.Equal(got, want[:last+1]) {
				t.Errorf("Runes(%q) up to %d = %x", s, last, got)
			}
			if again := collect(t, s, each); !slices.Equal(again, want) {
				t.Errorf("Runes(%q) after a loop that ended at %d = %x", s, last, again)
			}
		}
	}
}

// A loop that has ended must not be called again.
func TestRunesYieldNothingAfterTheEndOfALoop(t *testing.T) {
	const s = "aλ\xff€𝄞b"
	for last := 1; last <= 7; last++ {
		calls := 0
		text.Runes(s)(func(int, rune) bool {
			calls++
			return calls != last
		})
		if want := min(last, 6); calls != want {
			t.Errorf("a loop that ends at its rune %d was called %d times", last, calls)
		}
	}
}

func TestCutExamples(t *testing.T) {
	const s = "aλ\xff€\xe2\x82𝄞b"
	for _, x := range []struct {
		from, to int
		want     string
	}{
		{0, 8, s}, {0, 1, "a"}, {1, 2, "λ"}, {2, 3, "\xff"}, {3, 4, "€"}, {4, 5, "\xe2"}, {5, 6, "\x82"}, {6, 7, "𝄞"}, {7, 8, "b"},
		{1, 4, "λ\xff€"}, {4, 7, "\xe2\x82𝄞"}, {0, 7, s[:len(s)-1]}, {1, 8, s[1:]},
		{-1, 8, s}, {-5, 1, "a"}, {-5, 0, ""}, {-5, -1, ""}, {-1, -5, ""}, {0, -1, ""}, {math.MinInt, math.MaxInt, s}, {math.MinInt, 2, "aλ"},
		{0, 9, s}, {7, 99, "b"}, {8, 9, ""}, {9, 20, ""}, {20, 9, ""}, {6, math.MaxInt, "𝄞b"}, {math.MaxInt, math.MaxInt, ""},
		{0, 0, ""}, {3, 3, ""}, {8, 8, ""}, {-2, -2, ""}, {99, 99, ""},
		{2, 1, ""}, {8, 0, ""}, {7, 6, ""}, {5, -5, ""}, {99, 0, ""}, {math.MaxInt, math.MinInt, ""}, {0, math.MinInt, ""},
	} {
		if got := text.Cut(s, x.from, x.to); got != x.want {
			t.Errorf("Cut(%q, %d, %d) = %q, want %q", s, x.from, x.to, got, x.want)
		}
	}
}

// plainCut is the bytes of each rune whose position is in the range.
func plainCut(s string, from, to int) string {
	cut := ""
	for pos, piece := range pieces(s) {
		if pos >= from && pos < to {
			cut += piece
		}
	}
	return cut
}

func TestCutAtAllPositions(t *testing.T) {
	for _, s := range someStrings() {
		for _, from := range somePositions(text.Count(s)) {
			for _, to := range somePositions(text.Count(s)) {
				if got, want := text.Cut(s, from, to), plainCut(s, from, to); got != want {
					t.Fatalf("Cut(%q, %d, %d) = %q, want %q", s, from, to, got, want)
				}
			}
		}
	}
}

func TestLineExamples(t *testing.T) {
	for _, x := range []struct {
		s                 string
		pos, line, column int
	}{
		{"a\nbc", 3, 2, 2},
		{"", 0, 1, 1}, {"", 1, 1, 1}, {"", -1, 1, 1},
		{"abc", 0, 1, 1}, {"abc", 2, 1, 3}, {"abc", 3, 1, 4}, {"abc", 4, 1, 4}, {"abc", math.MaxInt, 1, 4}, {"abc", -1, 1, 1}, {"abc", math.MinInt, 1, 1},
		{"ab\ncd", 1, 1, 2}, {"ab\ncd", 2, 1, 3}, {"ab\ncd", 3, 2, 1}, {"ab\ncd", 4, 2, 2}, {"ab\ncd", 5, 2, 3}, {"ab\ncd", 99, 2, 3}, {"ab\ncd", -7, 1, 1},
		{"\na", -1, 1, 1}, {"\na", 0, 1, 1}, {"\na", 1, 2, 1}, {"\na", 2, 2, 2},
		{"a\n\n\nb", 1, 1, 2}, {"a\n\n\nb", 2, 2, 1}, {"a\n\n\nb", 3, 3, 1}, {"a\n\n\nb", 4, 4, 1}, {"a\n\n\nb", 5, 4, 2}, {"a\n\n\nb", 6, 4, 2},
		{"a\n", 1, 1, 2}, {"a\n", 2, 2, 1}, {"a\n", 3, 2, 1}, {"a\n\n", 3, 3, 1}, {"a\n\n", 50, 3, 1},
		{"λ€\n𝄞α\xffb", 1, 1, 2}, {"λ€\n𝄞α\xffb", 2, 1, 3}, {"λ€\n𝄞α\xffb", 3, 2, 1}, {"λ€\n𝄞α\xffb", 4, 2, 2}, {"λ€\n𝄞α\xffb", 5, 2, 3}, {"λ€\n𝄞α\xffb", 6, 2, 4}, {"λ€\n𝄞α\xffb", 7, 2, 5}, {"λ€\n𝄞α\xffb", 8, 2, 5},
		{"a\r\tb", 3, 1, 4}, {"a\u2028b\u0085c", 4, 1, 5},
	} {
		if line, column := text.Line(x.s, x.pos); line != x.line || column != x.column {
			t.Errorf("Line(%q, %d) = %d, %d, want %d, %d", x.s, x.pos, line, column, x.line, x.column)
		}
	}
}

// plainLine counts the line feeds before the position, and the runes behind the last of them.
func plainLine(s string, pos int) (int, int) {
	before := plainCut(s, 0, pos)
	last := before[strings.LastIndex(before, "\n")+1:]
	return strings.Count(before, "\n") + 1, utf8.RuneCountInString(last) + 1
}

func TestLineAtAllPositions(t *testing.T) {
	for _, s := range someStrings() {
		for _, pos := range somePositions(text.Count(s)) {
			line, column := text.Line(s, pos)
			if wantLine, wantColumn := plainLine(s, pos); line != wantLine || column != wantColumn {
				t.Errorf("Line(%q, %d) = %d, %d, want %d, %d", s, pos, line, column, wantLine, wantColumn)
			}
		}
	}
}

func FuzzPositions(f *testing.F) {
	f.Add("a\nbc", 3, 4)
	f.Add("a\xffλ\n€\xe2\x82𝄞", -1, 6)
	f.Fuzz(func(t *testing.T, s string, from, to int) {
		if got := collect(t, s, text.Runes(s)); !slices.Equal(got, []rune(s)) || len(got) != text.Count(s) {
			t.Errorf("Runes(%q) = %x, Count %d", s, got, text.Count(s))
		}
		if got, want := text.Cut(s, from, to), plainCut(s, from, to); got != want {
			t.Errorf("Cut(%q, %d, %d) = %q, want %q", s, from, to, got, want)
		}
		line, column := text.Line(s, from)
		if wantLine, wantColumn := plainLine(s, from); line != wantLine || column != wantColumn {
			t.Errorf("Line(%q, %d) = %d, %d, want %d, %d", s, from, line, column, wantLine, wantColumn)
		}
	})
}
