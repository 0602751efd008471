package mark_test

import (
	"math"
	"strconv"
	"strings"
	"testing"

	"pendulum/mark"
)

const hexDigits = "0123456789abcdef"

func TestTextExamples(t *testing.T) {
	for _, x := range []struct {
		m    uint64
		want string
	}{
		{mark.Of(""), "cbf29ce484222325"},
		{0, "0000000000000000"},
		{1, "0000000000000001"},
		{10, "000000000000000a"},
		{255, "00000000000000ff"},
		{0x0123456789abcdef, "0123456789abcdef"},
		{0xfedcba9876543210, "fedcba9876543210"},
		{math.MaxInt64, "7fffffffffffffff"},
		{1 << 63, "8000000000000000"},
		{math.MaxUint64, "ffffffffffffffff"},
	} {
		if got := mark.Text(x.m); got != x.want {
			t.Errorf("Text(%d) = %q, want %q", x.m, got, x.want)
		}
		if got, ok := mark.Read(x.want); got != x.m || !ok {
			t.Errorf("Read(%q) = %x, %v, want %x", x.want, got, ok, x.m)
		}
	}
}

func TestReadIsTheInverseOfText(t *testing.T) {
	for _, m := range someMarks() {
		text := mark.Text(m)
		digits := strconv.FormatUint(m, 16)
		if want := strings.Repeat("0", 16-len(digits)) + digits; text != want {
			t.Errorf("Text(%x) = %q, want %q", m, text, want)
		}
		if got, ok := mark.Read(text); got != m || !ok {
			t.Errorf("Read(%q) = %x, %v", text, got, ok)
		}
	}
}

func TestEveryDigitAtEveryPlace(t *testing.T) {
	for place := range 16 {
		for value := range 16 {
			for _, rest := range []string{"0", "9", "a", "f"} {
				s := withAt(strings.Repeat(rest, 16), place, hexDigits[value:value+1])
				want, err := strconv.ParseUint(s, 16, 64)
				if err != nil {
					t.Fatal(err)
				}
				if got, ok := mark.Read(s); got != want || !ok {
					t.Errorf("Read(%q) = %x, %v", s, got, ok)
				}
				if got := mark.Text(want); got != s {
					t.Errorf("Text(%x) = %q, want %q", want, got, s)
				}
			}
		}
	}
}

// withAt is s with piece in the place of as many bytes.
func withAt(s string, place int, piece string) string {
	return s[:place] + piece + s[place+len(piece):]
}

func refuses(t *testing.T, s string) {
	t.Helper()
	if m, ok := mark.Read(s); m != 0 || ok {
		t.Errorf("Read(%.40q) = %x, %v, want 0, false", s, m, ok)
	}
}

func TestReadRefusesOtherLengths(t *testing.T) {
	const s = "1234567890abcdef"
	for n := range 100 {
		if n == 16 {
			continue
		}
		refuses(t, strings.Repeat("0", n))
		refuses(t, strings.Repeat("f", n))
	}
	for n := range 16 {
		refuses(t, s[:n])
		refuses(t, s[n+1:])
	}
	for _, more := range []string{"0", "f", " ", "\n", "\x00", "λ", "\xff", s} {
		refuses(t, s+more)
		refuses(t, more+s)
	}
	refuses(t, strings.Repeat("0", 1<<20))
}

func TestReadRefusesOtherBytes(t *testing.T) {
	for c := range 256 {
		piece := string([]byte{byte(c)})
		if strings.Contains(hexDigits, piece) {
			continue
		}
		for place := range 16 {
			refuses(t, withAt("1234567890abcdef", place, piece))
		}
	}
}

func TestReadRefusesOtherForms(t *testing.T) {
	for _, s := range []string{
		"CBF29CE484222325",
		"cbf29ce48422232F",
		"0x29ce4842223251",
		"+bf29ce484222325",
		"-bf29ce484222325",
		" bf29ce484222325",
		"cbf29ce48422232 ",
		"cbf29ce4_8422232",
		"cbf29ce4 8422232",
		"gggggggggggggggg",
		"                ",
	} {
		refuses(t, s)
	}
}

// Runes whose lowest byte is a digit's, digits of other scripts, and the rune that stands for a wrong byte.
func TestReadRefusesRunesOfSeveralBytes(t *testing.T) {
	for _, r := range []rune{0xe9, 0x130, 0x161, 0x3bb, 0x660, 0x966, 0x20ac, 0x2030, 0xff10, 0xff41, 0xfffd, 0x10030, 0x1d11e, 0x1d7ce, 0x10ffff} {
		piece := string(r)
		for place := 0; place+len(piece) <= 16; place++ {
			s := withAt("1234567890abcdef", place, piece)
			if len(s) != 16 {
				t.Fatal(s)
			}
			refuses(t, s)
		}
		for place := range 16 {
			runes := "1234567890abcdef"[:place] + piece + "1234567890abcdef"[place+1:]
			refuses(t, runes)
		}
		refuses(t, strings.Repeat(piece, 16))
		refuses(t, strings.Repeat(piece, 16/len(piece)))
	}
}

func TestReadRefusesBytesThatAreNoRune(t *testing.T) {
	for _, piece := range []string{"\x80", "\xbf", "\xc0\x80", "\xc1\xa1", "\xc3", "\xe2\x82", "\xed\xa0\x80", "\xf4\x90\x80\x80", "\xfe", "\xff", "\xff\xff\xff"} {
		for place := 0; place+len(piece) <= 16; place++ {
			refuses(t, withAt("1234567890abcdef", place, piece))
		}
	}
	refuses(t, strings.Repeat("\xff", 16))
}

func FuzzRead(f *testing.F) {
	f.Add("cbf29ce484222325")
	f.Add("00000000000000λ")
	f.Fuzz(func(t *testing.T, s string) {
		m, ok := mark.Read(s)
		good := len(s) == 16 && strings.Trim(s, hexDigits) == ""
		if ok != good || ok && mark.Text(m) != s || !ok && m != 0 {
			t.Errorf("Read(%q) = %x, %v", s, m, ok)
		}
	})
}
