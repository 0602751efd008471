package disk_test

import (
	"testing"

	"pendulum/api"
	"pendulum/disk"
)

// spoil writes over a list and over its spare capacity.
func spoil(b []byte) {
	b = b[:cap(b)]
	for i := range b {
		b[i] = '!'
	}
}

func TestWriteKeepsNothingOfItsArgument(t *testing.T) {
	d := newDisk(t, 2)
	whole := []byte("abcdef")
	if err := d.Write(0, whole[1:3]); err != nil {
		t.Fatal(err)
	}
	if string(whole) != "abcdef" {
		t.Errorf("Write has changed its argument: %q", whole)
	}
	spoil(whole)
	checkSectors(t, "pending", d, `"bc" -`)
	flush(t, d)
	checkSectors(t, "flushed", d, `"bc" -`)
	whole = []byte("ghi")
	if err := d.Write(1, whole); err != nil {
		t.Fatal(err)
	}
	flush(t, d)
	spoil(whole)
	checkSectors(t, "flushed ahead", d, `"bc" "ghi"`)
}

func TestWhatReadReturnsIsNew(t *testing.T) {
	d := newDisk(t, 2)
	for _, size := range []int{0, 1, 5, api.SectorSize} {
		text := make([]byte, size)
		for _, when := range []string{"pending", "flushed"} {
			if when == "pending" {
				d.Write(1, text)
			} else {
				flush(t, d)
			}
			first, _, _ := d.Read(1)
			second, _, _ := d.Read(1)
			spoil(first)
			_ = append(first, "more"...)
			if string(second) != string(text) {
				t.Errorf("%s, %d bytes: two lists share memory: %q", when, size, second)
			}
			if got, _, _ := d.Read(1); string(got) != string(text) {
				t.Errorf("%s, %d bytes: a list is that of the disk: %q", when, size, got)
			}
			if got, _, _ := d.Clone().Read(1); string(got) != string(text) {
				t.Errorf("%s, %d bytes: a list is that of the clone: %q", when, size, got)
			}
		}
	}
}

// someDisk has sectors of every kind, is armed, and has refused calls.
func someDisk(t *testing.T) *disk.Disk {
	d := newDisk(t, 5)
	write(t, d, 0, "a0")
	write(t, d, 1, "a1")
	write(t, d, 2, "")
	flush(t, d)
	write(t, d, 1, "b1")
	write(t, d, 3, "b3")
	d.Write(5, nil)
	d.Arm(4)
	return d
}

func TestCloneIsTheSame(t *testing.T) {
	d := someDisk(t)
	c := d.Clone()
	if picture(t, c) != picture(t, d) {
		t.Errorf("the clone is\n%s\nof\n%s", picture(t, c), picture(t, d))
	}
	d.Arm(1)
	d.Flush()
	c = d.Clone()
	checkDown(t, "the clone of a disk that is down", c)
	if picture(t, c) != picture(t, d) {
		t.Errorf("the clone is\n%s\nof\n%s", picture(t, c), picture(t, d))
	}
	c.Crash(1, 1)
	checkSectors(t, "the clone", c, `"a0" "b1" "" "b3" -`)
	checkDown(t, "the disk of a clone that has restarted", d)
	c = newDisk(t, 2).Clone()
	write(t, c, 1, "a")
	flush(t, c)
	checkSectors(t, "the clone of a new disk", c, `- "a"`)
}

// What is done to one of a disk and its clone is not to be seen in the other, whichever it is.
func TestCloneGoesItsOwnWay(t *testing.T) {
	for _, x := range []struct {
		name string
		do   func(d *disk.Disk)
	}{
		{"Write of a new sector", func(d *disk.Disk) { d.Write(4, []byte("c")) }},
		{"Write of a flushed sector", func(d *disk.Disk) { d.Write(0, []byte("c")) }},
		{"Write of a pending sector", func(d *disk.Disk) { d.Write(3, []byte("c")) }},
		{"Write that is refused", func(d *disk.Disk) { d.Write(5, nil) }},
		{"Flush", func(d *disk.Disk) { d.Flush() }},
		{"Flush, then Write and Flush", func(d *disk.Disk) { d.Flush(); d.Write(0, []byte("c")); d.Flush() }},
		{"Arm", func(d *disk.Disk) { d.Arm(2) }},
		{"Arm of 0", func(d *disk.Disk) { d.Arm(0) }},
		{"a failure", func(d *disk.Disk) { d.Arm(1); d.Flush() }},
		{"Crash", func(d *disk.Disk) { d.Crash() }},
		{"Crash that keeps all", func(d *disk.Disk) { d.Crash(1, 1) }},
	} {
		d := someDisk(t)
		c := d.Clone()
		check := unchanged(t, x.name+" of the disk, seen in the clone", c)
		x.do(d)
		check()
		check = unchanged(t, x.name+" of the clone, seen in the disk", d)
		x.do(c)
		check()
		if picture(t, c) != picture(t, d) {
			t.Errorf("%s, of both:\n%s\n%s", x.name, picture(t, d), picture(t, c))
		}
	}
}

func TestClonesOfClones(t *testing.T) {
	d := newDisk(t, 4)
	var list []*disk.Disk
	for i := range 4 {
		write(t, d, i, "a")
		list = append(list, d)
		d = d.Clone()
	}
	for i, want := range []string{`"a" - - -`, `"a" "a" - -`, `"a" "a" "a" -`, `"a" "a" "a" "a"`} {
		checkSectors(t, "a clone", list[i], want)
		checkCounts(t, "a clone", list[i], i+1, i+1)
	}
}
