package jour_test

import (
	"fmt"
	"maps"
	"strings"
	"testing"

	"pendulum/api"
	"pendulum/disk"
	"pendulum/jour"
)

// call is a call of a store, and the records that it leaves.
type call struct {
	name string
	do   func(*jour.Store) error
	left func(model) model
}

func committing(l ...jour.Change) call {
	return call{fmt.Sprintf("Commit of %d", len(l)), func(s *jour.Store) error { return s.Commit(l...) }, func(m model) model { return m.after(l...) }}
}

func compacting() call {
	return call{"Compact", (*jour.Store).Compact, func(m model) model { return m }}
}

// pickings returns what to keep of that many pending sectors: everything that there is of few, and of many all, none, one, all but one, every other one, and those at the beginning and at the end.
func pickings(pending int) [][]int {
	var all [][]int
	if pending <= 4 {
		for n := range 1 << pending {
			var picks []int
			for i := range pending {
				picks = append(picks, n>>i&1)
			}
			all = append(all, picks)
		}
		return all
	}
	for i := range pending {
		for _, keep := range []func(int) bool{
			func(k int) bool { return k == i },
			func(k int) bool { return k != i },
			func(k int) bool { return k <= i },
			func(k int) bool { return k >= i },
			func(k int) bool { return k < 0 },
			func(k int) bool { return k%2 == i%2 },
		} {
			var picks []int
			for k := range pending {
				n := -2
				if keep(k) {
					n = -3
				}
				picks = append(picks, n)
			}
			all = append(all, picks)
		}
	}
	return all
}

// fails executes c on a store that the disk contains, with a power failure at the n-th Write or Flush. It returns false if there is no such one.
func fails(t *testing.T, d *disk.Disk, s *jour.Store, c call, n int) bool {
	t.Helper()
	was, used := recordsOf(s), s.Used()
	d.Arm(n)
	err := c.do(s)
	if err == nil {
		d.Arm(0)
		checkKept(t, c.name, d, s, c.left(was))
		return false
	}
	if err != api.ErrCrash || !d.Down() {
		t.Fatalf("%s with a power failure at %d: %v", c.name, n, err)
	}
	checkRecords(t, "down", s, was)
	if s.Used() != used {
		t.Fatalf("down: Used was %d, and is %d", used, s.Used())
	}
	return true
}

// crashes executes c with a power failure at each of its Writes and Flushes, and with each kind of picks. Each time it hands on the disk, and the store in which the call failed.
func crashes(t *testing.T, start *disk.Disk, c call, each func(d *disk.Disk, s *jour.Store)) {
	t.Helper()
	for n := 1; ; n++ {
		probe := start.Clone()
		if !fails(t, probe, open(t, probe), c, n) {
			if n == 1 {
				t.Fatalf("%s has written nothing", c.name)
			}
			return
		}
		for _, picks := range pickings(probe.Pending()) {
			d := start.Clone()
			s := open(t, d)
			fails(t, d, s, c, n)
			d.Crash(picks...)
			each(d, s)
		}
	}
}

// either opens the store of d, and returns its records: they are to be one of the two.
func either(t *testing.T, what string, d *disk.Disk, one, two model) model {
	t.Helper()
	calls := d.Calls()
	got := recordsOf(open(t, d))
	if !maps.Equal(got, one) && !maps.Equal(got, two) {
		t.Fatalf("%s: the records are %.200q, want %.200q or %.200q", what, got, one, two)
	}
	if d.Calls() != calls {
		t.Fatalf("%s: Open has written", what)
	}
	return got
}

func text(mark string, size int) string { return strings.Repeat(mark, size) }

// starts returns disks with stores: empty, with one record, with large and small ones, just compacted, and with as many changes as there is room for.
func starts(t *testing.T) []*disk.Disk {
	var all []*disk.Disk
	keep := func(d *disk.Disk) { all = append(all, d.Clone()) }
	d, s := newStore(t, 31)
	keep(d)
	commit(t, s, set("a", "1"))
	keep(d)
	commit(t, s, set("a", text("a", 300)), set("b", text("b", 200)), set("c", "3"))
	keep(d)
	for i := range 10 {
		commit(t, s, set("c", fmt.Sprint(i)))
		if i == 5 || i == 9 {
			keep(d)
		}
	}
	if err := s.Compact(); err != nil {
		t.Fatal(err)
	}
	keep(d)
	commit(t, s, gone("a"))
	keep(d)
	commit(t, s, gone("b"), gone("c"))
	keep(d)
	return all
}

// calls returns calls of all kinds, each of which writes something on each of the disks.
func calls() []call {
	return []call{
		committing(set("n", "new")),
		committing(set("n", text("n", 500)), set("c", "new")),
		committing(set("c", text("C", 140)), gone("a"), gone("b")),
		committing(set("a", text("A", 900)), set("b", ""), set("n", "new")),
		compacting(),
	}
}

func TestCrashAtEveryCallOfTheDisk(t *testing.T) {
	for i, start := range starts(t) {
		before := recordsOf(open(t, start))
		for _, c := range calls() {
			what := fmt.Sprintf("disk %d, %s", i, c.name)
			found := [2]int{}
			crashes(t, start, c, func(d *disk.Disk, s *jour.Store) {
				checkRecords(t, what, s, before)
				got := either(t, what, d, before, c.left(before))
				if maps.Equal(got, before) {
					found[0]++
				}
				if maps.Equal(got, c.left(before)) {
					found[1]++
				}
			})
			if found[0] == 0 || found[1] == 0 {
				t.Errorf("%s: of all crashes, %d left the records before, and %d those after", what, found[0], found[1])
			}
		}
	}
}

// What a call has left is not taken for a part of the next one: not of a shorter, not of a longer, not of one like it.
func TestCrashAfterCrash(t *testing.T) {
	for i, start := range starts(t) {
		before := recordsOf(open(t, start))
		for _, one := range calls() {
			crashes(t, start, one, func(d *disk.Disk, _ *jour.Store) {
				middle := either(t, "once", d, before, one.left(before))
				for _, two := range calls() {
					what := fmt.Sprintf("disk %d, %s, %s", i, one.name, two.name)
					last := d.Clone()
					s := open(t, last)
					if err := two.do(s); err != nil {
						t.Fatalf("%s: %v", what, err)
					}
					checkKept(t, what, last, s, two.left(middle))
				}
			})
		}
	}
}

func TestThreeCrashes(t *testing.T) {
	d, s := newStore(t, 15)
	commit(t, s, set("a", text("a", 200)), set("b", "1"))
	again(t, d, recordsOf(s), []call{
		committing(set("b", text("b", 130))),
		committing(set("c", "3"), gone("b")),
		committing(set("a", "4"), set("c", text("c", 150))),
	})
}

// again lets the power fail during each of the calls, in a store that is opened anew each time.
func again(t *testing.T, d *disk.Disk, before model, l []call) {
	t.Helper()
	if len(l) == 0 {
		return
	}
	crashes(t, d, l[0], func(d *disk.Disk, _ *jour.Store) {
		got := either(t, l[0].name, d, before, l[0].left(before))
		again(t, d, got, l[1:])
	})
}

// A store in which a call has failed is as before that call, also if the disk has kept what the call has written.
func TestGoingOnAfterACrash(t *testing.T) {
	for i, start := range starts(t) {
		before := recordsOf(open(t, start))
		for _, one := range calls() {
			for _, two := range calls() {
				what := fmt.Sprintf("disk %d, %s, %s", i, one.name, two.name)
				crashes(t, start, one, func(d *disk.Disk, s *jour.Store) {
					if err := two.do(s); err != nil {
						t.Fatalf("%s: %v", what, err)
					}
					checkKept(t, what, d, s, two.left(before))
				})
			}
		}
	}
}

// The power fails again in a store that goes on: the disk has what it had at that time, or all that the store tells after the call.
func TestCrashWhileGoingOn(t *testing.T) {
	for _, start := range starts(t) {
		before := recordsOf(open(t, start))
		for i, one := range calls() {
			two := calls()[(i+1)%len(calls())]
			crashes(t, start, one, func(d *disk.Disk, s *jour.Store) {
				middle := recordsOf(open(t, d))
				for n := 1; fails(t, d, s, two, n); n++ {
					d.Crash(n, n>>1, n>>2, n, n>>1, n>>2)
					checkRecords(t, "going on", s, before)
					middle = either(t, one.name+", "+two.name, d, middle, two.left(before))
				}
			})
		}
	}
}

func TestCrashOfLargeCalls(t *testing.T) {
	d, s := newStore(t, 200)
	commit(t, s, set("a", text("a", 3000)), set("b", text("b", 2000)))
	for _, c := range []call{
		committing(set("a", text("A", 3000)), set("b", text("B", 2000))),
		committing(append(many(0, 100), gone("a"))...),
		committing(gone("a"), gone("b")),
		compacting(),
	} {
		before := recordsOf(s)
		crashes(t, d, c, func(d *disk.Disk, _ *jour.Store) {
			either(t, c.name, d, before, c.left(before))
		})
	}
}

// Open needs no Write and no Flush, so that no power failure interrupts it.
func TestOpenWritesNothing(t *testing.T) {
	for i, start := range starts(t) {
		before := recordsOf(open(t, start))
		d := start.Clone()
		d.Arm(1)
		s := open(t, d)
		checkRecords(t, fmt.Sprint("disk ", i), s, before)
		if d.Down() || d.Calls() != start.Calls() || d.Pending() != 0 {
			t.Errorf("disk %d: Open has written", i)
		}
		if err := s.Compact(); err != api.ErrCrash {
			t.Errorf("disk %d: Compact: %v", i, err)
		}
	}
}
