package disk_test

import (
	"bytes"
	"fmt"
	"math"
	"strings"
	"testing"

	"pendulum/api"
	"pendulum/disk"
)

func newDisk(t testing.TB, sectors int) *disk.Disk {
	t.Helper()
	d, err := disk.New(sectors)
	if d == nil || err != nil {
		t.Fatalf("New(%d) = %v, %v", sectors, d, err)
	}
	return d
}

func write(t testing.TB, d *disk.Disk, i int, text string) {
	t.Helper()
	if err := d.Write(i, []byte(text)); err != nil {
		t.Fatalf("Write(%d, %q): %v", i, text, err)
	}
}

func flush(t testing.TB, d *disk.Disk) {
	t.Helper()
	if err := d.Flush(); err != nil {
		t.Fatalf("Flush: %v", err)
	}
}

// sector is what Read tells of a sector: its content in quotes, "-" if it was never written, or the error.
func sector(t testing.TB, d *disk.Disk, i int) string {
	t.Helper()
	b, ok, err := d.Read(i)
	if !ok && len(b) != 0 || ok && err != nil {
		t.Errorf("Read(%d) = %q, %v, %v", i, b, ok, err)
	}
	switch {
	case err != nil:
		return err.Error()
	case !ok:
		return "-"
	}
	return fmt.Sprintf("%q", b)
}

// sectors are all sectors of a disk, with a space between them.
func sectors(t testing.TB, d *disk.Disk) string {
	t.Helper()
	var list []string
	for i := range d.Sectors() {
		list = append(list, sector(t, d, i))
	}
	return strings.Join(list, " ")
}

// checkSectors holds the contents of a disk against those wanted, as sectors gives them.
func checkSectors(t *testing.T, what string, d *disk.Disk, want string) {
	t.Helper()
	if got := sectors(t, d); got != want {
		t.Errorf("%s: the sectors are %s, want %s", what, got, want)
	}
}

// checkCounts holds a disk against its number of pending sectors and of calls.
func checkCounts(t *testing.T, what string, d *disk.Disk, pending, calls int) {
	t.Helper()
	if d.Pending() != pending || d.Calls() != calls {
		t.Errorf("%s: %d pending, %d calls; want %d and %d", what, d.Pending(), d.Calls(), pending, calls)
	}
}

// picture is all that can be seen of a disk: what it tells, when its power fails, and what a crash leaves. Clones are tried where a look would change it.
func picture(t testing.TB, d *disk.Disk) string {
	t.Helper()
	lost, kept, tried := d.Clone(), d.Clone(), d.Clone()
	lost.Crash()
	picks := make([]int, d.Sectors())
	for i := range picks {
		picks[i] = 1
	}
	kept.Crash(picks...)
	fails := 0
	for n := 1; n <= 20 && fails == 0; n++ {
		if tried.Flush() != nil {
			fails = n
		}
	}
	return fmt.Sprintf("%d sectors, %d pending, %d calls, down %v, fails at %d: %s; lost: %s; kept: %s",
		d.Sectors(), d.Pending(), d.Calls(), d.Down(), fails, sectors(t, d), sectors(t, lost), sectors(t, kept))
}

// unchanged returns a function that tells an error if the disk does not look as it does now.
func unchanged(t *testing.T, what string, d *disk.Disk) func() {
	before := picture(t, d)
	return func() {
		t.Helper()
		if after := picture(t, d); after != before {
			t.Errorf("%s: it was\n%s\nand is\n%s", what, before, after)
		}
	}
}

func TestNewRefusesNumbersOutOfRange(t *testing.T) {
	for _, n := range []int{0, -1, -2, -api.MaxSectors, math.MinInt, api.MaxSectors + 1, api.MaxSectors * 2, math.MaxInt} {
		if d, err := disk.New(n); d != nil || err != api.ErrRange {
			t.Errorf("New(%d) = %v, %v", n, d, err)
		}
	}
}

func TestNewDisks(t *testing.T) {
	for _, n := range []int{1, 2, 3, 100, api.MaxSectors - 1, api.MaxSectors} {
		d := newDisk(t, n)
		if d.Sectors() != n || d.Down() {
			t.Errorf("New(%d): %d sectors, down %v", n, d.Sectors(), d.Down())
		}
		checkCounts(t, "new", d, 0, 0)
		for i := range n {
			if got := sector(t, d, i); got != "-" {
				t.Errorf("New(%d): sector %d is %s", n, i, got)
			}
		}
	}
}

func TestDisksAreApart(t *testing.T) {
	a, b := newDisk(t, 2), newDisk(t, 2)
	write(t, a, 0, "a")
	flush(t, a)
	write(t, a, 1, "b")
	a.Arm(1)
	checkCounts(t, "the other", b, 0, 0)
	checkSectors(t, "the other", b, "- -")
	flush(t, b)
}

func TestWriteAndReadAtTheEnds(t *testing.T) {
	for _, n := range []int{1, 2, 7, api.MaxSectors} {
		d := newDisk(t, n)
		write(t, d, n-1, "last")
		if got := sector(t, d, n-1); got != `"last"` {
			t.Errorf("the last of %d is %s", n, got)
		}
		write(t, d, 0, "first")
		if got := sector(t, d, 0); got != `"first"` {
			t.Errorf("the first of %d is %s", n, got)
		}
		flush(t, d)
		if got := sector(t, d, 0); got != `"first"` {
			t.Errorf("the first of %d is %s after Flush", n, got)
		}
	}
}

func TestNoSuchSector(t *testing.T) {
	for _, n := range []int{1, 2, 7} {
		d := newDisk(t, n)
		write(t, d, n-1, "a")
		flush(t, d)
		write(t, d, 0, "b")
		check := unchanged(t, "no such sector", d)
		for _, i := range []int{-1, -2, -n, math.MinInt, n, n + 1, 2 * n, api.MaxSectors, math.MaxInt} {
			if b, ok, err := d.Read(i); len(b) != 0 || ok || err != api.ErrFull {
				t.Errorf("Read(%d) of %d = %q, %v, %v", i, n, b, ok, err)
			}
			// A content that is too long is met after the sector.
			for _, size := range []int{0, 1, api.SectorSize, api.SectorSize + 1, 1 << 16} {
				if err := d.Write(i, make([]byte, size)); err != api.ErrFull {
					t.Errorf("Write(%d, %d bytes) of %d: %v", i, size, n, err)
				}
			}
			check()
		}
	}
}

func TestSizesOfContents(t *testing.T) {
	d := newDisk(t, 3)
	for size := range api.SectorSize + 1 {
		text := strings.Repeat("\x00\xff", size)[:size]
		write(t, d, 1, text)
		for range 2 {
			if b, ok, err := d.Read(1); string(b) != text || !ok || err != nil {
				t.Errorf("a sector of %d bytes: %q, %v, %v", size, b, ok, err)
			}
			flush(t, d)
		}
	}
	checkCounts(t, "written", d, 0, 3*(api.SectorSize+1))
	check := unchanged(t, "too long", d)
	for _, size := range []int{api.SectorSize + 1, api.SectorSize + 2, 2 * api.SectorSize, 1 << 20} {
		for i := range 3 {
			if err := d.Write(i, make([]byte, size)); err != api.ErrMany {
				t.Errorf("Write(%d, %d bytes): %v", i, size, err)
			}
		}
		check()
	}
}

func TestEveryByteIsKept(t *testing.T) {
	d := newDisk(t, 2)
	for half := range 2 {
		b := make([]byte, 128)
		for i := range b {
			b[i] = byte(half*128 + i)
		}
		if err := d.Write(half, b); err != nil {
			t.Fatal(err)
		}
		if got, _, _ := d.Read(half); !bytes.Equal(got, b) {
			t.Errorf("sector %d is %x", half, got)
		}
	}
}

func TestEmptyContentIsWritten(t *testing.T) {
	d := newDisk(t, 3)
	if err := d.Write(0, nil); err != nil {
		t.Error(err)
	}
	if err := d.Write(1, []byte{}); err != nil {
		t.Error(err)
	}
	checkCounts(t, "pending", d, 2, 2)
	checkSectors(t, "pending", d, `"" "" -`)
	flush(t, d)
	checkSectors(t, "flushed", d, `"" "" -`)
	write(t, d, 0, "a")
	flush(t, d)
	write(t, d, 0, "")
	checkSectors(t, "pending again", d, `"" "" -`)
	flush(t, d)
	checkSectors(t, "flushed again", d, `"" "" -`)
}

func TestPendingAndCalls(t *testing.T) {
	d := newDisk(t, 3)
	checkCounts(t, "new", d, 0, 0)
	write(t, d, 1, "a")
	checkCounts(t, "one", d, 1, 1)
	write(t, d, 1, "b")
	checkCounts(t, "the same", d, 1, 2)
	write(t, d, 1, "b")
	checkCounts(t, "the same content", d, 1, 3)
	write(t, d, 0, "c")
	write(t, d, 2, "d")
	checkCounts(t, "all", d, 3, 5)
	checkSectors(t, "all", d, `"c" "b" "d"`)
	flush(t, d)
	checkCounts(t, "flushed", d, 0, 6)
	checkSectors(t, "flushed", d, `"c" "b" "d"`)
	flush(t, d)
	checkCounts(t, "flushed twice", d, 0, 7)
	write(t, d, 0, "c")
	checkCounts(t, "the content that is flushed", d, 1, 8)
	sectors(t, d)
	checkCounts(t, "read", d, 1, 8)
	d.Crash()
	checkCounts(t, "crashed", d, 0, 8)
	checkSectors(t, "crashed", d, `"c" "b" "d"`)
}

func TestFlushOfANewDisk(t *testing.T) {
	d := newDisk(t, 2)
	flush(t, d)
	checkCounts(t, "flushed", d, 0, 1)
	checkSectors(t, "flushed", d, "- -")
}

func TestAllSectors(t *testing.T) {
	d := newDisk(t, api.MaxSectors)
	for i := range api.MaxSectors {
		write(t, d, i, fmt.Sprint(i))
	}
	checkCounts(t, "written", d, api.MaxSectors, api.MaxSectors)
	flush(t, d)
	checkCounts(t, "flushed", d, 0, api.MaxSectors+1)
	for i := range api.MaxSectors {
		if got, want := sector(t, d, i), fmt.Sprintf(`"%d"`, i); got != want {
			t.Errorf("sector %d is %s", i, got)
		}
	}
}
