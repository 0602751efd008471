package disk_test

import (
	"math"
	"testing"

	"pendulum/api"
	"pendulum/disk"
)

// checkDown asks a disk that is down for everything; only Crash is to change anything.
func checkDown(t *testing.T, what string, d *disk.Disk) {
	t.Helper()
	check := unchanged(t, what, d)
	if !d.Down() {
		t.Errorf("%s: it is not down", what)
	}
	for range 3 {
		for _, i := range []int{0, d.Sectors() - 1, -1, d.Sectors(), math.MinInt, math.MaxInt} {
			if b, ok, err := d.Read(i); len(b) != 0 || ok || err != api.ErrCrash {
				t.Errorf("%s: Read(%d) = %q, %v, %v", what, i, b, ok, err)
			}
			for _, size := range []int{0, 1, api.SectorSize, api.SectorSize + 1} {
				if err := d.Write(i, make([]byte, size)); err != api.ErrCrash {
					t.Errorf("%s: Write(%d, %d bytes): %v", what, i, size, err)
				}
			}
		}
		if err := d.Flush(); err != api.ErrCrash {
			t.Errorf("%s: Flush: %v", what, err)
		}
		check()
	}
}

// checkNeverFails flushes a disk more often than a test arms it for.
func checkNeverFails(t *testing.T, what string, d *disk.Disk) {
	t.Helper()
	for n := range 50 {
		if err := d.Flush(); err != nil || d.Down() {
			t.Fatalf("%s: Flush %d: %v, down %v", what, n+1, err, d.Down())
		}
	}
}

func TestCrashExample(t *testing.T) {
	d := newDisk(t, 1)
	write(t, d, 0, "a")
	d.Crash()
	checkSectors(t, "after Crash", d, "-")
	checkCounts(t, "after Crash", d, 0, 1)
}

func TestPowerFailsAtTheCall(t *testing.T) {
	long := make([]byte, api.SectorSize+1)
	calls := []struct {
		name string
		call func(d *disk.Disk) error
		want error // without a failure of the power
	}{
		{"Write", func(d *disk.Disk) error { return d.Write(1, []byte("new")) }, nil},
		{"Write of nothing", func(d *disk.Disk) error { return d.Write(0, nil) }, nil},
		{"Write below", func(d *disk.Disk) error { return d.Write(-1, nil) }, api.ErrFull},
		{"Write beyond", func(d *disk.Disk) error { return d.Write(3, nil) }, api.ErrFull},
		{"Write of too much", func(d *disk.Disk) error { return d.Write(2, long) }, api.ErrMany},
		{"Write beyond of too much", func(d *disk.Disk) error { return d.Write(3, long) }, api.ErrFull},
		{"Flush", (*disk.Disk).Flush, nil},
	}
	for n := 1; n <= 8; n++ {
		for _, last := range calls {
			for _, ahead := range calls {
				d := newDisk(t, 3)
				write(t, d, 0, "a")
				flush(t, d)
				write(t, d, 0, "b")
				write(t, d, 2, "c")
				d.Arm(n)
				for k := 1; k < n; k++ {
					if err := ahead.call(d); err != ahead.want || d.Down() {
						t.Fatalf("%s, call %d of %d: %v, down %v", ahead.name, k, n, err, d.Down())
					}
				}
				before := d.Clone()
				before.Crash(1, 0, 1)
				pending, made := d.Pending(), d.Calls()
				if err := last.call(d); err != api.ErrCrash {
					t.Fatalf("%s at the failure, call %d: %v", last.name, n, err)
				}
				checkDown(t, last.name, d)
				checkCounts(t, last.name, d, pending, made)
				d.Crash(1, 0, 1)
				checkSectors(t, last.name, d, sectors(t, before))
				checkCounts(t, last.name, d, 0, made)
				checkNeverFails(t, last.name, d)
			}
		}
	}
}

func TestCallsWithErrorsCountForArmAlone(t *testing.T) {
	d := newDisk(t, 1)
	d.Arm(4)
	if d.Write(1, nil) != api.ErrFull || d.Write(-1, nil) != api.ErrFull || d.Write(0, make([]byte, 129)) != api.ErrMany {
		t.Error("wrong errors")
	}
	checkCounts(t, "ahead", d, 0, 0)
	if err := d.Write(0, nil); err != api.ErrCrash {
		t.Error(err)
	}
	checkCounts(t, "behind", d, 0, 0)
}

func TestOtherCallsDoNotCountForArm(t *testing.T) {
	d := newDisk(t, 2)
	write(t, d, 0, "a")
	d.Arm(2)
	for range 10 {
		d.Read(0)
		d.Read(1)
		d.Read(2)
		d.Sectors()
		d.Pending()
		d.Calls()
		d.Down()
		d.Clone()
	}
	write(t, d, 1, "b")
	for range 10 {
		checkSectors(t, "armed", d, `"a" "b"`)
	}
	if err := d.Flush(); err != api.ErrCrash {
		t.Error(err)
	}
}

func TestArmBelowOne(t *testing.T) {
	for _, n := range []int{0, -1, -2, math.MinInt + 1, math.MinInt} {
		d := newDisk(t, 1)
		d.Arm(n)
		checkNeverFails(t, "never armed", d)
		d.Arm(3)
		flush(t, d)
		d.Arm(n)
		checkNeverFails(t, "armed once", d)
	}
}

func TestArmOfManyCalls(t *testing.T) {
	for _, n := range []int{51, 1 << 20, math.MaxInt - 1, math.MaxInt} {
		d := newDisk(t, 1)
		d.Arm(n)
		checkNeverFails(t, "far ahead", d)
	}
	d := newDisk(t, 1)
	d.Arm(51)
	checkNeverFails(t, "just ahead", d)
	if err := d.Flush(); err != api.ErrCrash {
		t.Error(err)
	}
}

func TestArmCountsFromTheLastArm(t *testing.T) {
	d := newDisk(t, 1)
	d.Arm(3)
	flush(t, d)
	flush(t, d)
	d.Arm(3)
	flush(t, d)
	flush(t, d)
	if err := d.Flush(); err != api.ErrCrash {
		t.Error("armed anew for as many:", err)
	}
	d.Crash()
	d.Arm(9)
	d.Arm(1)
	if err := d.Flush(); err != api.ErrCrash {
		t.Error("armed anew for fewer:", err)
	}
}

func TestArmOfADiskThatIsDown(t *testing.T) {
	for _, n := range []int{-1, 0, 1, 2, 5, math.MaxInt} {
		d := newDisk(t, 1)
		write(t, d, 0, "a")
		d.Arm(1)
		d.Flush()
		d.Arm(n)
		checkDown(t, "armed while down", d)
		d.Crash(1)
		checkSectors(t, "restarted", d, `"a"`)
		checkNeverFails(t, "restarted", d)
	}
}

func TestDownUntilCrash(t *testing.T) {
	d := newDisk(t, 2)
	write(t, d, 1, "a")
	d.Arm(1)
	if d.Down() {
		t.Error("down when armed")
	}
	d.Write(1, []byte("b"))
	checkDown(t, "failed", d)
	checkCounts(t, "failed", d, 1, 1)
	d.Crash(1)
	if d.Down() {
		t.Error("down after Crash")
	}
	checkSectors(t, "restarted", d, `- "a"`)
	write(t, d, 0, "c")
	checkCounts(t, "restarted", d, 1, 2)
	d.Crash()
	checkSectors(t, "restarted again", d, `- "a"`)
}

func TestCrashDisarms(t *testing.T) {
	for _, n := range []int{1, 2, 5} {
		d := newDisk(t, 1)
		d.Arm(n)
		d.Crash(1)
		checkNeverFails(t, "crashed while armed", d)
	}
}

func TestCrashOfADiskThatIsNotDown(t *testing.T) {
	d := newDisk(t, 3)
	d.Crash()
	d.Crash(1, 1, 1)
	checkSectors(t, "new", d, "- - -")
	checkCounts(t, "new", d, 0, 0)
	write(t, d, 0, "a")
	write(t, d, 1, "b")
	flush(t, d)
	d.Crash()
	checkSectors(t, "flushed", d, `"a" "b" -`)
	d.Crash(1, 0, 1)
	checkSectors(t, "flushed", d, `"a" "b" -`)
	write(t, d, 1, "c")
	d.Crash(1)
	checkSectors(t, "pending", d, `"a" "c" -`)
	d.Crash()
	checkSectors(t, "kept by the crash before", d, `"a" "c" -`)
	checkCounts(t, "at last", d, 0, 4)
}

func TestPicks(t *testing.T) {
	for _, x := range []struct {
		picks []int
		want  string
	}{
		{nil, `"a0" "a1" - -`},
		{[]int{}, `"a0" "a1" - -`},
		{[]int{0}, `"a0" "a1" - -`},
		{[]int{1}, `"b0" "a1" - -`},
		{[]int{0, 1}, `"a0" "a1" "b2" -`},
		{[]int{1, 1}, `"b0" "a1" "b2" -`},
		{[]int{0, 0, 1}, `"a0" "a1" - "b3"`},
		{[]int{1, 1, 1}, `"b0" "a1" "b2" "b3"`},
		{[]int{0, 0, 0}, `"a0" "a1" - -`},
		{[]int{0, 0, 0, 1}, `"a0" "a1" - -`},
		{[]int{1, 0, 1, 1, 1, 1, 1}, `"b0" "a1" - "b3"`},
		{[]int{2, 3, 4}, `"a0" "a1" "b2" -`},
		{[]int{-1, -2, -3}, `"b0" "a1" - "b3"`},
		{[]int{math.MaxInt, math.MinInt, math.MinInt + 1}, `"b0" "a1" - "b3"`},
		{[]int{math.MaxInt - 1, 257, 256}, `"a0" "a1" "b2" -`},
		{[]int{1 << 32, 1<<32 + 1, 1 << 62}, `"a0" "a1" "b2" -`},
	} {
		for _, down := range []bool{false, true} {
			d := newDisk(t, 4)
			write(t, d, 0, "a0")
			write(t, d, 1, "a1")
			flush(t, d)
			// Not in their order, and one of them twice: the picks go by the numbers of the sectors.
			write(t, d, 3, "b3")
			write(t, d, 2, "other")
			write(t, d, 0, "b0")
			write(t, d, 2, "b2")
			if down {
				d.Arm(1)
				d.Write(1, []byte("b1"))
			}
			d.Crash(x.picks...)
			checkSectors(t, "after Crash", d, x.want)
			checkCounts(t, "after Crash", d, 0, 7)
			d.Crash(1, 1, 1, 1)
			checkSectors(t, "after another Crash", d, x.want)
		}
	}
}

func TestPicksOfManySectors(t *testing.T) {
	const n = 3000
	d := newDisk(t, n)
	picks := make([]int, n)
	for k := range n {
		i := k * 7 % n // another order than the ascending one
		write(t, d, i, "a")
		picks[i] = i / 3
	}
	checkCounts(t, "written", d, n, n)
	d.Crash(picks...)
	for i := range n {
		want := "-"
		if picks[i]%2 == 1 {
			want = `"a"`
		}
		if got := sector(t, d, i); got != want {
			t.Errorf("sector %d is %s, want %s", i, got, want)
		}
	}
}

func TestWhatWasWrittenTwiceGoesBackToTheFlush(t *testing.T) {
	d := newDisk(t, 1)
	write(t, d, 0, "a")
	write(t, d, 0, "b")
	d.Crash(0)
	checkSectors(t, "never flushed", d, "-")
	write(t, d, 0, "c")
	flush(t, d)
	write(t, d, 0, "d")
	write(t, d, 0, "e")
	d.Crash(2)
	checkSectors(t, "flushed", d, `"c"`)
	write(t, d, 0, "d")
	write(t, d, 0, "e")
	d.Crash(3)
	checkSectors(t, "kept", d, `"e"`)
	write(t, d, 0, "")
	d.Crash(1)
	checkSectors(t, "kept empty", d, `""`)
}

func TestPicksAreNotChanged(t *testing.T) {
	d := newDisk(t, 3)
	write(t, d, 2, "a")
	write(t, d, 0, "b")
	all := []int{5, -3, 7, 9, 11}
	d.Crash(all[:1]...)
	checkSectors(t, "after Crash", d, `"b" - -`)
	for i, want := range []int{5, -3, 7, 9, 11} {
		if all[i] != want {
			t.Errorf("pick %d is %d", i, all[i])
		}
	}
}
