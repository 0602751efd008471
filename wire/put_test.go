package wire_test

import (
	"bytes"
	"math"
	"math/big"
	"slices"
	"strings"
	"testing"

	"pendulum/wire"
)

// plainNum is the encoding in the words of the chapter, by numbers that don't wrap around.
func plainNum(n int64) []byte {
	z := new(big.Int).Mul(big.NewInt(2), big.NewInt(n))
	if n < 0 {
		z.Neg(z).Sub(z, big.NewInt(1))
	}
	var list []byte
	for {
		low := new(big.Int)
		z.DivMod(z, big.NewInt(128), low)
		if z.Sign() == 0 {
			return append(list, byte(low.Int64()))
		}
		list = append(list, byte(low.Int64()+128))
	}
}

// numbers are those around which the encoding becomes longer, of both signs, and the extreme ones.
func numbers() []int64 {
	list := []int64{0, 1, 2, 5, 100, 1000, 123456789, math.MaxInt64 - 1, math.MaxInt64}
	for bit := 6; bit < 63; bit++ {
		n := int64(1) << bit
		list = append(list, n-2, n-1, n, n+1)
	}
	for _, n := range slices.Clone(list) {
		list = append(list, -n, -n-1)
	}
	return list
}

func TestPutExamples(t *testing.T) {
	ff := bytes.Repeat([]byte{255}, 8)
	for _, x := range []struct {
		n    int64
		want []byte
	}{
		{-1, []byte{1}},
		{64, []byte{128, 1}},
		{0, []byte{0}},
		{1, []byte{2}},
		{63, []byte{126}},
		{-64, []byte{127}},
		{-65, []byte{129, 1}},
		{8191, []byte{254, 127}},
		{-8192, []byte{255, 127}},
		{8192, []byte{128, 128, 1}},
		{-8193, []byte{129, 128, 1}},
		{math.MaxInt64, slices.Concat([]byte{254}, ff, []byte{1})},
		{math.MinInt64, slices.Concat([]byte{255}, ff, []byte{1})},
	} {
		if got := wire.Put(nil, x.n); !bytes.Equal(got, x.want) {
			t.Errorf("Put(nil, %d) = %v, want %v", x.n, got, x.want)
		}
	}
}

func TestPutIsZigZagBySevenBits(t *testing.T) {
	for n := int64(-20000); n <= 20000; n++ {
		if got := wire.Put(nil, n); !bytes.Equal(got, plainNum(n)) {
			t.Fatalf("Put(nil, %d) = %v, want %v", n, got, plainNum(n))
		}
	}
	for _, n := range numbers() {
		if got := wire.Put([]byte{9, 0}, n); !bytes.Equal(got, append([]byte{9, 0}, plainNum(n)...)) {
			t.Errorf("Put({9, 0}, %d) = %v", n, got)
		}
	}
}

func TestPutText(t *testing.T) {
	for _, x := range []struct {
		b    []byte
		s    string
		want []byte
	}{
		{nil, "", []byte{0}},
		{[]byte{}, "a", []byte{2, 'a'}},
		{[]byte{7, 128}, "ab", []byte{7, 128, 4, 'a', 'b'}},
		{nil, "\u00e9", []byte{4, 0xc3, 0xa9}},
		{nil, "\xff\x00\x80", []byte{6, 255, 0, 128}},
	} {
		if got := wire.PutText(x.b, x.s); !bytes.Equal(got, x.want) {
			t.Errorf("PutText(%v, %q) = %v, want %v", x.b, x.s, got, x.want)
		}
	}
	for _, n := range []int{63, 64, 8191, 8192, 70000} {
		s := strings.Repeat("x", n)
		want := slices.Concat([]byte{3}, plainNum(int64(n)), []byte(s))
		if !bytes.Equal(wire.PutText([]byte{3}, s), want) {
			t.Errorf("PutText of %d bytes", n)
		}
	}
}

// putters are the two functions that make a list out of another one.
func putters() map[string]func(b []byte, c byte) []byte {
	return map[string]func(b []byte, c byte) []byte{
		"Put":     func(b []byte, c byte) []byte { return wire.Put(b, int64(c)) },
		"PutText": func(b []byte, c byte) []byte { return wire.PutText(b, string([]byte{c})) },
	}
}

func TestPutLeavesItsArgument(t *testing.T) {
	for name, put := range putters() {
		room := []byte{1, 2, 3, 4, 5, 6, 7, 8, 9, 10, 11, 12, 13, 14, 15, 16}
		same := slices.Clone(room)
		got := put(room[:2], 33)
		if !bytes.Equal(room, same) {
			t.Errorf("%s wrote into its argument or behind it: %v", name, room)
		}
		for i := range got {
			got[i] = 99
		}
		if !bytes.Equal(room, same) {
			t.Errorf("the list of %s shares memory with its argument: %v", name, room)
		}
	}
}

func TestPutReturnsNewLists(t *testing.T) {
	for name, put := range putters() {
		head := put(nil, 5)
		first, second := put(head, 1), put(head, 2)
		keepHead, keepFirst, keepSecond := slices.Clone(head), slices.Clone(first), slices.Clone(second)
		third := append(head, 70, 71, 72)
		fourth := append(first, 80, 81, 82)
		if !bytes.Equal(head, keepHead) || !bytes.Equal(first, keepFirst) || !bytes.Equal(second, keepSecond) {
			t.Errorf("%s: an appended byte is seen in another list", name)
		}
		if !bytes.Equal(third[len(head):], []byte{70, 71, 72}) || !bytes.Equal(fourth[len(first):], []byte{80, 81, 82}) {
			t.Errorf("%s: two lists share their spare capacity", name)
		}
	}
}
