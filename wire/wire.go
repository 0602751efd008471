// Package wire writes integers and strings as bytes, and reads them back.
package wire

import (
	"pendulum/api"
)

// mostBytes is the length of the longest number: ten times seven bits hold 64.
const mostBytes = 10

// Put returns the bytes of b, followed by the encoding of n.
func Put(b []byte, n int64) []byte {
	return appendNum(copyWithRoom(b, mostBytes), n)
}

// PutText returns the bytes of b, followed by the length of s and its bytes.
func PutText(b []byte, s string) []byte {
	list := appendNum(copyWithRoom(b, mostBytes+len(s)), int64(len(s)))
	return append(list, s...)
}

// copyWithRoom never hands back b itself: a caller may go on writing into the spare capacity of b.
func copyWithRoom(b []byte, room int) []byte {
	list := make([]byte, len(b), len(b)+room)
	copy(list, b)
	return list
}

func appendNum(list []byte, n int64) []byte {
	z := zigzag(n)
	for z >= 128 {
		list = append(list, byte(z)|128)
		z >>= 7
	}
	return append(list, byte(z))
}

// zigzag takes the complement of 2n for a negative n, which is -2n - 1 and doesn't overflow for the least integer.
func zigzag(n int64) uint64 {
	if n < 0 {
		return ^(uint64(n) << 1)
	}
	return uint64(n) << 1
}

func unzigzag(z uint64) int64 {
	if z&1 == 1 {
		return int64(^(z >> 1))
	}
	return int64(z >> 1)
}

// Reader reads integers and strings from a list of bytes, until its first error.
type Reader struct {
	list []byte
	at   int
	err  error
}

// NewReader returns a reader of a copy of b, so that later changes of b are not seen.
func NewReader(b []byte) *Reader {
	return &Reader{list: copyWithRoom(b, 0)}
}

// Num reads an integer from low to high.
func (r *Reader) Num(low, high int64) int64 {
	if r.err != nil {
		return 0
	}
	n, size, err := readNum(r.list[r.at:], low, high)
	if err != nil {
		r.fail(err)
		return 0
	}
	r.at += size
	return n
}

// Text reads a string of at most that many bytes.
func (r *Reader) Text(most int) string {
	if r.err != nil {
		return ""
	}
	s, size, err := readText(r.list[r.at:], most)
	if err != nil {
		r.fail(err)
		return ""
	}
	r.at += size
	return s
}

// Bool reads an integer that is 0 or 1, and reports whether it is 1.
func (r *Reader) Bool() bool {
	return r.Num(0, 1) == 1
}

// At returns the number of bytes that have been read: where the first error begins, if there is one.
func (r *Reader) At() int {
	return r.at
}

// Left returns the number of bytes from At to the end.
func (r *Reader) Left() int {
	return len(r.list) - r.at
}

// Err returns the first error, an *api.At with its offset.
func (r *Reader) Err() error {
	return r.err
}

func (r *Reader) fail(err error) {
	r.err = &api.At{Pos: r.at, Err: err}
}

// readNum answers the integer at the beginning of list, and the number of its bytes.
func readNum(list []byte, low, high int64) (int64, int, error) {
	z, size, err := readBits(list)
	if err != nil {
		return 0, 0, err
	}
	n := unzigzag(z)
	if n < low || n > high {
		return 0, 0, api.ErrRange
	}
	return n, size, nil
}

// readBits answers the zig-zag number at the beginning of list, and the number of its bytes. It ends at the tenth byte at the latest, since a tenth byte that goes on is greater than 1.
func readBits(list []byte) (uint64, int, error) {
	var z uint64
	for i, c := range list {
		if i == mostBytes-1 && c > 1 || i > 0 && c == 0 {
			return 0, 0, api.ErrShape
		}
		z |= uint64(c&127) << (7 * i)
		if c < 128 {
			return z, i + 1, nil
		}
	}
	return 0, 0, api.ErrEnd
}

// readText answers the string at the beginning of list, and the number of bytes of its length and itself.
func readText(list []byte, most int) (string, int, error) {
	n, size, err := readNum(list, 0, int64(most))
	if err != nil {
		return "", 0, err
	}
	if n > int64(len(list)-size) {
		return "", 0, api.ErrEnd
	}
	end := size + int(n)
	return string(list[size:end]), end, nil
}
