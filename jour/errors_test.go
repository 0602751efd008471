package jour_test

import (
	"fmt"
	"strings"
	"testing"

	"pendulum/api"
	"pendulum/disk"
	"pendulum/jour"
)

// bringDown lets the power fail; nothing is pending then.
func bringDown(t *testing.T, d *disk.Disk) {
	t.Helper()
	d.Arm(1)
	if err := d.Flush(); err != api.ErrCrash || !d.Down() {
		t.Fatal(err)
	}
}

// wrong has, for each error that Commit has ahead of the disk's, changes that it applies to and none ahead of it does, on a disk of 100 sectors with a record a.
func wrong() map[error][][]jour.Change {
	longKey := strings.Repeat("k", api.MaxKey+1)
	longest := strings.Repeat("v", api.MaxValue)
	tooLong := longest + "v"
	large := set("large", longest)
	tooMany := many(0, api.MaxRecords)
	return map[error][][]jour.Change{
		api.ErrRange: {
			{set("", "")},
			{gone("")},
			{set(longKey, "")},
			{gone(longKey)},
			{set("b", "1"), set("", "1")},
			{set("b", "1"), gone("b"), gone(longKey), set("c", "1")},
			{set("", tooLong)},
			{set("b", tooLong), set("", "")},
			{set("", ""), set("b", tooLong)},
			append(many(0, api.MaxRecords), set("", "")),
			{large, gone("")},
		},
		api.ErrMany: {
			{set("b", tooLong)},
			{set("a", tooLong)},
			{{Key: "a", Value: tooLong, Gone: true}},
			{{Key: "absent", Value: tooLong, Gone: true}},
			{set("b", "1"), set("b", tooLong), set("b", "1")},
			{set("b", tooLong), gone("b")},
			{large, set("b", tooLong)},
			tooMany,
			append(many(0, api.MaxRecords), large),
		},
		api.ErrFull: {
			{large},
			{large, gone("a")},
			{set("b", "1"), large, set("c", "1")},
			{set("b", strings.Repeat("v", 100*api.SectorSize))},
			{set("b", strings.Repeat("v", 50*api.SectorSize)), set("c", strings.Repeat("v", 50*api.SectorSize))},
		},
	}
}

func TestCommitWithAnErrorChangesNothing(t *testing.T) {
	for _, down := range []bool{false, true} {
		for want, lists := range wrong() {
			for i, l := range lists {
				d, s := newStore(t, 100)
				commit(t, s, set("a", "1"))
				if down {
					bringDown(t, d)
				}
				what := fmt.Sprint(want, " ", i, " down: ", down)
				check := unchanged(t, what, d, s)
				if err := s.Commit(l...); err != want {
					t.Errorf("%s: %v", what, err)
				}
				check()
				d.Crash()
				checkKept(t, what, d, s, model{"a": "1"})
				commit(t, s, set("a", "2"), set("b", "3"))
				checkKept(t, what+", going on", d, s, model{"a": "2", "b": "3"})
			}
		}
	}
}

// A key counts as wrong wherever it stands, but records are counted after all changes, and a value that is void in the end takes no room.
func TestCommitLooksAtTheEnd(t *testing.T) {
	d, s := newStore(t, 100)
	large := set("large", strings.Repeat("v", api.MaxValue))
	commit(t, s, set("a", "1"), large, gone("large"))
	checkKept(t, "large and gone", d, s, model{"a": "1"})
	commit(t, s, large, set("large", "2"))
	checkKept(t, "large and small", d, s, model{"a": "1", "large": "2"})
	commit(t, s, jour.Change{Key: "large", Value: large.Value, Gone: true})
	checkKept(t, "gone with a large value", d, s, model{"a": "1"})
}

func TestDiskThatIsDown(t *testing.T) {
	d, s := newStore(t, 100)
	commit(t, s, set("a", "1"))
	bringDown(t, d)
	check := unchanged(t, "a call", d, s)
	for range 3 {
		for _, l := range [][]jour.Change{{set("a", "2")}, {set("b", "")}, {gone("a")}} {
			if err := s.Commit(l...); err != api.ErrCrash {
				t.Errorf("Commit(%v): %v", l, err)
			}
		}
		if err := s.Compact(); err != api.ErrCrash {
			t.Errorf("Compact: %v", err)
		}
		if again, err := jour.Open(d); again != nil || err != api.ErrCrash {
			t.Errorf("Open: %v, %v", again, err)
		}
		check()
	}
	d.Crash()
	checkKept(t, "restarted", d, s, model{"a": "1"})
	commit(t, s, set("a", "2"))
	checkKept(t, "going on", d, s, model{"a": "2"})
}

func TestDiskThatWasNeverUp(t *testing.T) {
	d, s := newStore(t, 10)
	bringDown(t, d)
	if err := s.Commit(set("a", "1")); err != api.ErrCrash {
		t.Errorf("Commit: %v", err)
	}
	if err := s.Compact(); err != api.ErrCrash {
		t.Errorf("Compact: %v", err)
	}
	d.Crash()
	checkKept(t, "restarted", d, s, model{})
}
