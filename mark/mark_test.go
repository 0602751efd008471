package mark_test

import (
	"hash/fnv"
	"math"
	"math/big"
	"math/rand"
	"strings"
	"testing"

	"pendulum/mark"
)

const first = 0xcbf29ce484222325

// plainAdd is the computation in the words of the chapter, by numbers that don't wrap around.
func plainAdd(m uint64, s string) uint64 {
	n := new(big.Int).SetUint64(m)
	bound := new(big.Int).Lsh(big.NewInt(1), 64)
	for _, c := range []byte(s) {
		n.Xor(n, big.NewInt(int64(c)))
		n.Mul(n, big.NewInt(0x100000001b3))
		n.Mod(n, bound)
	}
	return n.Uint64()
}

// someStrings have all bytes, bytes that are no runes, and runes of one to four bytes.
func someStrings() []string {
	list := []string{"", "a", "ab", "foobar", "node f(x: int) returns (y: int);", "\x00", "\x00\x00", "\x7f\x80", "\xff\x00\xfe", "é", "λ", "€", "𝄞", "\ufffd", "\xed\xa0\x80", strings.Repeat("xyz", 5000)}
	for c := range 256 {
		list = append(list, string([]byte{byte(c)}))
	}
	return list
}

func someMarks() []uint64 {
	list := []uint64{0, 1, 9, 10, 15, 16, 255, 256, first, 0x0123456789abcdef, 0xfedcba9876543210, math.MaxInt64, 1 << 63, math.MaxUint64 - 1, math.MaxUint64}
	random := rand.New(rand.NewSource(2))
	for range 1000 {
		list = append(list, random.Uint64()>>random.Intn(64))
	}
	return list
}

func TestOfExamples(t *testing.T) {
	for _, x := range []struct {
		s    string
		want uint64
	}{
		{"", first},
		{"a", 0xaf63dc4c8601ec8c},
		{"b", 0xaf63df4c8601f1a5},
		{"\x00", 0xaf63bd4c8601b7df},
		{"foobar", 0x85944171f73967e8},
	} {
		if got := mark.Of(x.s); got != x.want {
			t.Errorf("Of(%q) = %x, want %x", x.s, got, x.want)
		}
	}
}

func TestOfIsAddFromTheFirstMark(t *testing.T) {
	for _, s := range someStrings() {
		hash := fnv.New64a()
		hash.Write([]byte(s))
		if got := mark.Of(s); got != hash.Sum64() || got != mark.Add(first, s) {
			t.Errorf("Of(%.20q) = %x, want %x", s, got, hash.Sum64())
		}
	}
}

func TestAddComputesWith64Bits(t *testing.T) {
	for _, m := range []uint64{0, 1, 255, first, 1 << 63, math.MaxUint64} {
		for _, s := range someStrings() {
			if got, want := mark.Add(m, s), plainAdd(m, s); got != want {
				t.Errorf("Add(%x, %.20q) = %x, want %x", m, s, got, want)
			}
		}
	}
}

func TestAddOfTheEmptyString(t *testing.T) {
	for _, m := range someMarks() {
		if got := mark.Add(m, ""); got != m {
			t.Errorf("Add(%x, \"\") = %x", m, got)
		}
	}
}

func TestAddInPieces(t *testing.T) {
	const s = "one λ two \xff\x00 three 𝄞 four"
	for _, m := range []uint64{0, 7, first, math.MaxUint64} {
		whole := mark.Add(m, s)
		byBytes := m
		for i := range len(s) {
			byBytes = mark.Add(byBytes, s[i:i+1])
			if got := mark.Add(mark.Add(m, s[:i]), s[i:]); got != whole {
				t.Errorf("Add from %x, in two pieces at %d: %x, want %x", m, i, got, whole)
			}
			if got := mark.Add(mark.Add(mark.Add(m, s[:i/2]), s[i/2:i]), s[i:]); got != whole {
				t.Errorf("Add from %x, in three pieces at %d and %d: %x, want %x", m, i/2, i, got, whole)
			}
		}
		if byBytes != whole {
			t.Errorf("Add from %x, byte by byte: %x, want %x", m, byBytes, whole)
		}
	}
}
