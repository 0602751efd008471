package wire_test

import (
	"bytes"
	"math"
	"slices"
	"strings"
	"testing"

	"pendulum/api"
	"pendulum/wire"
)

const (
	least    = math.MinInt64
	greatest = math.MaxInt64
)

// checkFine holds a reader against the number of bytes that it has read, and that are left, without an error.
func checkFine(t *testing.T, what string, r *wire.Reader, at, left int) {
	t.Helper()
	if r.Err() != nil || r.At() != at || r.Left() != left {
		t.Errorf("%s: At %d, Left %d, Err %v; want %d, %d and no error", what, r.At(), r.Left(), r.Err(), at, left)
	}
}

// checkFailed holds a reader of size bytes against its error and the offset, and asks it for more, which must change nothing.
func checkFailed(t *testing.T, what string, r *wire.Reader, size, pos int, want error) {
	t.Helper()
	check := func(when string) {
		t.Helper()
		at, ok := r.Err().(*api.At)
		if !ok || at.Pos != pos || at.Err != want || r.At() != pos || r.Left() != size-pos {
			t.Errorf("%s%s: At %d, Left %d, Err %v; want %d, %d and %d: %v", what, when, r.At(), r.Left(), r.Err(), pos, size-pos, pos, want)
		}
	}
	check("")
	if n := r.Num(least, greatest); n != 0 {
		t.Errorf("%s: Num after the error = %d", what, n)
	}
	check(", then Num")
	r.Num(1, 0)
	check(", then Num out of range")
	if s := r.Text(math.MaxInt); s != "" {
		t.Errorf("%s: Text after the error = %q", what, s)
	}
	check(", then Text")
	r.Text(-1)
	check(", then Text out of range")
	if r.Bool() {
		t.Errorf("%s: Bool after the error is true", what)
	}
	check(", then Bool")
}

func TestNumReadsWhatPutWrites(t *testing.T) {
	var list []byte
	for _, n := range numbers() {
		list = wire.Put(list, n)
	}
	r := wire.NewReader(list)
	at := 0
	for _, n := range numbers() {
		at += len(plainNum(n))
		if got := r.Num(least, greatest); got != n {
			t.Fatalf("Num = %d, want %d", got, n)
		}
		checkFine(t, "Num", r, at, len(list)-at)
	}
	r.Num(least, greatest)
	checkFailed(t, "Num behind the last one", r, len(list), len(list), api.ErrEnd)
}

func TestNewReaderIsAtTheBeginning(t *testing.T) {
	checkFine(t, "no bytes", wire.NewReader(nil), 0, 0)
	checkFine(t, "three bytes", wire.NewReader([]byte{128, 0, 0}), 0, 3)
}

func TestNumBounds(t *testing.T) {
	for _, x := range []struct{ low, high int64 }{
		{0, 9}, {-5, 5}, {7, 7}, {-300, -200}, {least, greatest}, {least, least}, {greatest, greatest}, {least + 1, greatest - 1}, {0, 0},
	} {
		for _, n := range []int64{x.low, x.high} {
			b := wire.Put([]byte{2}, n)
			r := wire.NewReader(b)
			r.Num(1, 1)
			if got := r.Num(x.low, x.high); got != n {
				t.Errorf("Num(%d, %d) = %d, want %d", x.low, x.high, got, n)
			}
			checkFine(t, "a bound", r, len(b), 0)
		}
		var beyond []int64
		if x.low > least {
			beyond = append(beyond, x.low-1, least)
		}
		if x.high < greatest {
			beyond = append(beyond, x.high+1, greatest)
		}
		for _, n := range beyond {
			b := append(wire.Put([]byte{2}, n), 0)
			r := wire.NewReader(b)
			r.Num(1, 1)
			if got := r.Num(x.low, x.high); got != 0 {
				t.Errorf("Num(%d, %d) of %d = %d, want 0", x.low, x.high, n, got)
			}
			checkFailed(t, "beyond a bound", r, len(b), 1, api.ErrRange)
		}
	}
}

func TestNumOfNoRange(t *testing.T) {
	for _, n := range []int64{0, 1, 2, 3} {
		b := wire.Put(nil, n)
		r := wire.NewReader(b)
		r.Num(2, 1)
		checkFailed(t, "Num(2, 1)", r, len(b), 0, api.ErrRange)
	}
}

func TestNumThatEndsEarly(t *testing.T) {
	for _, n := range numbers() {
		whole := plainNum(n)
		for size := range whole {
			b := append([]byte{4}, whole[:size]...)
			r := wire.NewReader(b)
			r.Num(2, 2)
			if got := r.Num(least, greatest); got != 0 {
				t.Errorf("Num of %v = %d, want 0", b[1:], got)
			}
			checkFailed(t, "a part of a number", r, len(b), 1, api.ErrEnd)
		}
	}
}

func TestNumOfTheTenthByte(t *testing.T) {
	for _, nine := range []byte{128, 129, 254, 255} {
		for tenth := range 256 {
			b := append(bytes.Repeat([]byte{nine}, 9), byte(tenth), 1, 0)
			r := wire.NewReader(b)
			got := r.Num(least, greatest)
			if tenth == 1 {
				if !bytes.Equal(plainNum(got), b[:10]) {
					t.Errorf("Num of %v = %d", b, got)
				}
				checkFine(t, "a tenth byte of 1", r, 10, 2)
				continue
			}
			if got != 0 {
				t.Errorf("Num of %v = %d, want 0", b, got)
			}
			checkFailed(t, "a tenth byte", r, len(b), 0, api.ErrShape)
		}
	}
}

func TestNumOfAZeroByte(t *testing.T) {
	for size := 1; size <= 9; size++ {
		for _, c := range []byte{128, 129, 255} {
			b := slices.Concat([]byte{0}, bytes.Repeat([]byte{c}, size), []byte{0, 5})
			r := wire.NewReader(b)
			if n := r.Num(0, 0); n != 0 {
				t.Errorf("Num of a first byte 0 = %d", n)
			}
			checkFine(t, "a first byte 0", r, 1, len(b)-1)
			r.Num(least, greatest)
			checkFailed(t, "a later byte 0", r, len(b), 1, api.ErrShape)
		}
	}
}

func TestNumOrderOfErrors(t *testing.T) {
	for _, x := range []struct {
		what string
		b    []byte
		want error
	}{
		{"a 0 and out of range", []byte{129, 0}, api.ErrShape},
		{"a tenth byte and out of range", []byte{255, 255, 255, 255, 255, 255, 255, 255, 255, 2}, api.ErrShape},
		{"a tenth byte that goes on, then the end", []byte{255, 255, 255, 255, 255, 255, 255, 255, 255, 129}, api.ErrShape},
		{"the end and out of range", []byte{255, 255}, api.ErrEnd},
		{"nine bytes that go on", bytes.Repeat([]byte{255}, 9), api.ErrEnd},
	} {
		r := wire.NewReader(x.b)
		r.Num(0, 9)
		checkFailed(t, x.what, r, len(x.b), 0, x.want)
	}
}

// plainRead is Num(least, greatest) of two bytes in the words of the chapter.
func plainRead(a, b byte) (n int64, size int, err error) {
	z := int64(a)
	size = 1
	if a >= 128 {
		if b == 0 {
			return 0, 0, api.ErrShape
		}
		if b >= 128 {
			return 0, 0, api.ErrEnd
		}
		z = int64(a) - 128 + 128*int64(b)
		size = 2
	}
	if z%2 == 1 {
		return -(z + 1) / 2, size, nil
	}
	return z / 2, size, nil
}

func TestNumOfAllPairsOfBytes(t *testing.T) {
	for i := range 1 << 16 {
		b := []byte{byte(i), byte(i >> 8)}
		r := wire.NewReader(b)
		got := r.Num(least, greatest)
		n, size, err := plainRead(b[0], b[1])
		if got != n {
			t.Fatalf("Num of %v = %d, want %d", b, got, n)
		}
		if err != nil {
			checkFailed(t, "a pair of bytes", r, 2, 0, err)
			continue
		}
		checkFine(t, "a pair of bytes", r, size, 2-size)
		if !bytes.Equal(wire.Put(nil, got), b[:size]) {
			t.Fatalf("%v is not the encoding of %d", b[:size], got)
		}
	}
}

func TestTextReadsWhatPutTextWrites(t *testing.T) {
	texts := []string{"", "a", "ab", "\xff\x00\x80", "\u00e9\u4e16", strings.Repeat("y", 63), strings.Repeat("z", 64), strings.Repeat("w", 9000)}
	var list []byte
	for _, s := range texts {
		list = wire.PutText(list, s)
	}
	r := wire.NewReader(list)
	at := 0
	for _, s := range texts {
		at += len(plainNum(int64(len(s)))) + len(s)
		if got := r.Text(len(s)); got != s {
			t.Fatalf("Text(%d) = %q, want %q", len(s), got, s)
		}
		checkFine(t, "Text", r, at, len(list)-at)
	}
	r.Text(0)
	checkFailed(t, "Text behind the last one", r, len(list), len(list), api.ErrEnd)
}

func TestTextBounds(t *testing.T) {
	for _, most := range []int{0, 1, 2, 63, 64, 200} {
		b := wire.PutText([]byte{0}, strings.Repeat("a", most+1))
		r := wire.NewReader(b)
		r.Num(0, 0)
		if s := r.Text(most); s != "" {
			t.Errorf("Text(%d) of one byte more = %q", most, s)
		}
		checkFailed(t, "one byte too many", r, len(b), 1, api.ErrRange)
		r = wire.NewReader(b)
		r.Num(0, 0)
		if s := r.Text(most + 1); len(s) != most+1 {
			t.Errorf("Text(%d) has %d bytes", most+1, len(s))
		}
		checkFine(t, "just as many bytes as may be", r, len(b), 0)
	}
}

func TestTextErrors(t *testing.T) {
	huge := wire.Put(nil, greatest)
	for _, x := range []struct {
		what string
		b    []byte
		most int
		want error
	}{
		{"no byte", nil, 9, api.ErrEnd},
		{"a length that ends early", []byte{128}, 9, api.ErrEnd},
		{"a length with a 0", []byte{130, 0, 'a'}, 9, api.ErrShape},
		{"a length with a tenth byte", append(bytes.Repeat([]byte{128}, 9), 2), 9, api.ErrShape},
		{"a negative length", []byte{1, 'a'}, 9, api.ErrRange},
		{"a length beyond most, and beyond the end", []byte{20, 'a'}, 9, api.ErrRange},
		{"no string is short enough", []byte{0}, -1, api.ErrRange},
		{"the least of most", []byte{0}, math.MinInt, api.ErrRange},
		{"a string of no byte", []byte{2}, 9, api.ErrEnd},
		{"a string without its last byte", []byte{6, 'a', 'b'}, 3, api.ErrEnd},
		{"the greatest length", append(huge, "abc"...), math.MaxInt, api.ErrEnd},
	} {
		for _, head := range [][]byte{nil, {6, 'x', 'y', 'z'}} {
			b := append(slices.Clone(head), x.b...)
			r := wire.NewReader(b)
			if len(head) > 0 && r.Text(3) != "xyz" {
				t.Errorf("%s: the string before it", x.what)
			}
			if s := r.Text(x.most); s != "" {
				t.Errorf("%s: Text = %q", x.what, s)
			}
			checkFailed(t, x.what, r, len(b), len(head), x.want)
		}
	}
}

func TestBool(t *testing.T) {
	r := wire.NewReader([]byte{2, 0, 2})
	for i, want := range []bool{true, false, true} {
		if got := r.Bool(); got != want {
			t.Errorf("Bool %d = %v", i, got)
		}
		checkFine(t, "Bool", r, i+1, 2-i)
	}
	r.Bool()
	checkFailed(t, "Bool behind the last one", r, 3, 3, api.ErrEnd)
	for _, x := range []struct {
		b    []byte
		want error
	}{
		{nil, api.ErrEnd},
		{[]byte{130}, api.ErrEnd},
		{[]byte{130, 0}, api.ErrShape},
		{[]byte{4}, api.ErrRange},
		{[]byte{1}, api.ErrRange},
		{[]byte{3, 2}, api.ErrRange},
	} {
		r := wire.NewReader(x.b)
		if r.Bool() {
			t.Errorf("Bool of %v is true", x.b)
		}
		checkFailed(t, "Bool", r, len(x.b), 0, x.want)
	}
}

func TestReaderKeepsItsFirstError(t *testing.T) {
	b := []byte{2, 40, 130, 0}
	r := wire.NewReader(b)
	r.Bool()
	r.Num(0, 9)
	first := r.Err()
	r.Num(0, 20)
	r.Text(99)
	r.Bool()
	if r.Err() != first {
		t.Errorf("Err = %v, was %v", r.Err(), first)
	}
	checkFailed(t, "the first error", r, len(b), 1, api.ErrRange)
}

func TestReaderDoesNotShareItsArgument(t *testing.T) {
	b := wire.PutText(wire.Put(nil, 5), "ab")
	same := slices.Clone(b)
	r := wire.NewReader(b)
	other := wire.NewReader(b)
	n, s := r.Num(0, 9), r.Text(9)
	if n != 5 || s != "ab" || !bytes.Equal(b, same) {
		t.Errorf("read %d and %q; the bytes are now %v", n, s, b)
	}
	clear(b)
	if n, s := other.Num(0, 9), other.Text(9); n != 5 || s != "ab" {
		t.Errorf("after a change of the bytes: read %d and %q", n, s)
	}
	checkFine(t, "after a change of the bytes", other, len(b), 0)
}

func TestReaderEndsAtTheLength(t *testing.T) {
	b := []byte{128, 1, 4, 'a', 'b'}
	r := wire.NewReader(b[:1])
	r.Num(least, greatest)
	checkFailed(t, "a number behind the length", r, 1, 0, api.ErrEnd)
	r = wire.NewReader(b[2:4])
	r.Text(9)
	checkFailed(t, "a string behind the length", r, 2, 0, api.ErrEnd)
}

// FuzzReader asks a reader whether whatever it accepts is just what Put and PutText write.
func FuzzReader(f *testing.F) {
	f.Add([]byte{2, 4, 'a', 'b', 0})
	f.Add([]byte{255, 255, 255, 255, 255, 255, 255, 255, 255, 1})
	f.Add([]byte{128, 0})
	f.Fuzz(func(t *testing.T, b []byte) {
		r := wire.NewReader(b)
		var again []byte
		for turn := 0; r.Left() > 0 && r.Err() == nil; turn++ {
			before := again
			if turn%2 == 0 {
				again = wire.Put(again, r.Num(least, greatest))
			} else {
				again = wire.PutText(again, r.Text(len(b)))
			}
			if r.Err() != nil {
				again = before
			}
		}
		if r.At() != len(again) || r.At()+r.Left() != len(b) || !bytes.Equal(again, b[:r.At()]) {
			t.Errorf("%v was read as %v, Err %v", b, again, r.Err())
		}
	})
}
