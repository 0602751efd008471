package text_test

import (
	"slices"
	"strings"
	"testing"
	"unicode/utf8"

	"pendulum/api"
	"pendulum/text"
)

// keywords are those of chapter 6.
func keywords() []string {
	return strings.Fields("and bool else every false fby if int let merge mod node not or pre returns tel then true var when xor")
}

func checkName(t *testing.T, s string, want bool) {
	t.Helper()
	if got := text.Name(s); got != want {
		t.Errorf("Name(%.60q) = %v, want %v", s, got, want)
	}
}

// plainName takes s apart by the sets of runes that a name is made of.
func plainName(s string) bool {
	if !utf8.ValidString(s) || len(s) < 1 || len(s) > api.MaxName || slices.Contains(keywords(), s) {
		return false
	}
	first := string(letters())
	list := []rune(s)
	return strings.ContainsRune(first, list[0]) && strings.Trim(string(list[1:]), first+string(digits())+"_") == ""
}

func TestNames(t *testing.T) {
	for _, s := range []string{"λ1", "a", "z", "α", "ω", "ς", "x1", "a_", "a__", "a_1z", "a0", "a9", "z09_", "λ_μ", "αω", "aω", "ωa", "abcdefghijklmnopqrstuvwx", "f_1_2", "x_y"} {
		checkName(t, s, true)
	}
	for _, s := range []string{
		"", " ", "_", "_a", "__", "1", "0", "9a", "1a", "0_", "A", "Ab", "aB", "é", "aé", "Λ", "aΛ", "ΰ", "ϊ", "aϊ", "€", "a€", "𝄞", "a𝄞",
		"a b", " a", "a ", "a\n", "\na", "a\tb", "a-b", "a.b", "a'", "a:", "a,b", "(a)", "a\x00", "\x00a", "a\x7f", "٠a", "a٠", "a０", "ａ",
		"\xff", "a\xff", "\xffa", "a\xffb", "a\xce", "\xceb", "λ\xce", "\ufffd", "a\ufffd", "a\xe2\x82",
	} {
		checkName(t, s, false)
	}
}

func TestLengthsOfNames(t *testing.T) {
	const most = api.MaxName
	for n := range 3 * most {
		checkName(t, strings.Repeat("a", n), n >= 1 && n <= most)
		checkName(t, strings.Repeat("λ", n), n >= 1 && 2*n <= most)
		checkName(t, "a"+strings.Repeat("λ", n), 1+2*n <= most)
		checkName(t, "λ"+strings.Repeat("_", n), 2+n <= most)
		checkName(t, "a"+strings.Repeat("7", n), 1+n <= most)
	}
	checkName(t, strings.Repeat("λ", most/2), true)
	checkName(t, strings.Repeat("λ", most/2)+"a", false)
	checkName(t, strings.Repeat("λ", most/2-1)+"ab", true)
	checkName(t, strings.Repeat("a", most-1)+"λ", false)
	checkName(t, strings.Repeat("a", most-1)+"\xce", false)
	checkName(t, strings.Repeat("a", 1<<20), false)
}

func TestEveryRuneInAName(t *testing.T) {
	for r := rune(0); r < 0x11000; r++ {
		if !utf8.ValidRune(r) {
			continue
		}
		letter := slices.Contains(letters(), r)
		later := letter || slices.Contains(digits(), r) || r == '_'
		checkName(t, string(r), letter)
		checkName(t, string(r)+"9", letter)
		checkName(t, "q"+string(r), later)
		checkName(t, "λ1"+string(r)+"_q", later)
	}
}

func TestKeywordsAreNoNames(t *testing.T) {
	if len(keywords()) != 22 {
		t.Fatal(len(keywords()))
	}
	for _, k := range keywords() {
		checkName(t, k, false)
		checkName(t, strings.ToUpper(k), false)
		checkName(t, k+" ", false)
		checkName(t, k+"\xff", false)
		for _, more := range []string{"_", "0", "9", "a", "z", "λ", "s", k} {
			checkName(t, k+more, true)
		}
		for _, more := range []string{"a", "q", "λ"} {
			checkName(t, more+k, true)
		}
		checkName(t, "_"+k, false)
		checkName(t, "1"+k, false)
	}
}

// A keyword with a letter less, or with another in its place, is a name, unless it is another keyword.
func TestStringsNextToKeywords(t *testing.T) {
	for _, k := range keywords() {
		for i := range k {
			less := k[:i] + k[i+1:]
			checkName(t, less, !slices.Contains(keywords(), less))
			for _, r := range letters() {
				other := k[:i] + string(r) + k[i+1:]
				checkName(t, other, !slices.Contains(keywords(), other))
				more := k[:i] + string(r) + k[i:]
				checkName(t, more, !slices.Contains(keywords(), more))
			}
		}
	}
	for _, s := range []string{"iff", "i", "f", "ints", "in", "ands", "an", "nod", "nodes", "return", "o", "xo", "fb", "ba"} {
		checkName(t, s, true)
	}
}

func TestNameOfSomeStrings(t *testing.T) {
	for _, s := range someStrings() {
		checkName(t, s, plainName(s))
	}
}

func FuzzName(f *testing.F) {
	for _, s := range append(keywords(), "λ1", "a_1z", "1a", "a\xff", strings.Repeat("λ", 12)) {
		f.Add(s)
	}
	f.Fuzz(func(t *testing.T, s string) {
		checkName(t, s, plainName(s))
	})
}
