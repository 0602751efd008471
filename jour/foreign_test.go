package jour_test

import (
	"fmt"
	"maps"
	"math/rand"
	"testing"

	"pendulum/api"
	"pendulum/disk"
	"pendulum/jour"
)

// checkUsable goes on with whatever a disk contains.
func checkUsable(t *testing.T, what string, d *disk.Disk) {
	t.Helper()
	s := open(t, d)
	m := recordsOf(s)
	checkKept(t, what, d, s, m)
	if len(m) > api.MaxRecords {
		t.Fatalf("%s: %d records", what, len(m))
	}
	for k, v := range m {
		if len(k) < 1 || len(k) > api.MaxKey || len(v) > api.MaxValue {
			t.Fatalf("%s: a record %.50q of %d bytes", what, k, len(v))
		}
	}
	for _, l := range [][]jour.Change{{set("a", "1")}, {set("b", text("b", 300)), gone("a")}, {gone("b")}} {
		if err := s.Commit(l...); err == nil {
			m = m.after(l...)
		} else if err != api.ErrFull && err != api.ErrMany {
			t.Fatalf("%s: %v", what, err)
		}
		checkKept(t, what, d, s, m)
	}
}

func write(t *testing.T, d *disk.Disk, i int, b []byte) {
	t.Helper()
	if err := d.Write(i, b); err != nil {
		t.Fatal(err)
	}
}

func TestDiskThatNoStoreHasWritten(t *testing.T) {
	for _, b := range [][]byte{{}, {0}, {0, 0}, {0, 0, 0}, {0, 0, 1}, {0, 0, 2}, {0, 2, 2}, {0, 2, 4}, {0, 4, 2}, {0, 0, 0, 0}, {0, 0, 200, 1}, {0, 0, 254, 255, 255, 255, 255, 255, 255, 255, 255, 1}, {254, 255, 255, 255, 255, 255, 255, 255, 255, 1, 0, 2}, {128}, {255, 255, 255, 255, 255, 255, 255, 255, 255, 255}, []byte("hello")} {
		for _, sectors := range []int{1, 2, 3, 4, 5, 20} {
			d := newDisk(t, sectors)
			write(t, d, 0, b)
			what := fmt.Sprint("head ", b, ", sectors ", sectors)
			checkRecords(t, what, open(t, d), model{})
			checkUsable(t, what, d)
		}
	}
}

func TestSectorsThatNoStoreHasWritten(t *testing.T) {
	for _, b := range [][]byte{
		{2},                     // a key that ends too early
		{2, 'a'},                // no more than a key
		{2, 'a', 4},             // neither there nor gone
		{2, 'a', 0, 4, 'b'},     // a value that ends too early
		{0, 0, 2, 'b'},          // an empty key
		{82, 'a'},               // too long a key
		{2, 'a', 0, 130, 128},   // a number that ends too early
		{2, 'a', 0, 2, 'b', 2},  // something behind a record
		{2, 'a', 2, 2, 'b', 77}, // something behind one that is gone
	} {
		d, s := newStore(t, 30)
		commit(t, s, set("old", "1"))
		for i := 1; i < 30; i++ {
			write(t, d, i, b)
		}
		what := fmt.Sprint("sectors of ", b)
		s = open(t, d)
		checkRecords(t, what, s, model{})
		if s.Used() != 0 {
			t.Errorf("%s: Used = %d", what, s.Used())
		}
		checkUsable(t, what, d)
	}
}

func TestHeadThatIsTooLong(t *testing.T) {
	d, s := newStore(t, 30)
	commit(t, s, set("old", "1"))
	b, _, err := d.Read(0)
	if err != nil {
		t.Fatal(err)
	}
	write(t, d, 0, append(b, 0))
	checkRecords(t, "too long a head", open(t, d), model{})
	checkUsable(t, "too long a head", d)
}

func TestDisksOfRandomBytes(t *testing.T) {
	r := rand.New(rand.NewSource(5))
	for round := range 3000 {
		sectors := 1 + r.Intn(20)
		d := newDisk(t, sectors)
		for i := range sectors {
			b := make([]byte, r.Intn(api.SectorSize+1)>>r.Intn(6))
			for k := range b {
				b[k] = byte(r.Intn(256) >> r.Intn(8))
			}
			if i == 0 && round%2 == 0 {
				b = []byte{byte(r.Intn(128)), byte(2 * r.Intn(2)), byte(2 * r.Intn(sectors))}
			}
			if r.Intn(5) > 0 {
				write(t, d, i, b)
			}
		}
		checkUsable(t, fmt.Sprint("round ", round), d)
	}
}

// More records than a store has room for are none of a store's.
func TestTooManyRecordsOnADisk(t *testing.T) {
	d := newDisk(t, 100)
	var b []byte
	for i := range api.MaxRecords + 1 {
		b = append(b, 4, byte(i), byte(i>>8), 0, 0)
	}
	used := 0
	for ; len(b) > 0; used++ {
		n := min(len(b), api.SectorSize)
		write(t, d, 1+used, b[:n])
		b = b[n:]
	}
	write(t, d, 0, []byte{2, 0, byte(2 * used)})
	checkRecords(t, "too many", open(t, d), model{})
	checkUsable(t, "too many", d)
}

// Of two stores of one disk, the one that has succeeded last has all that it tells on the disk, whatever the other one has written in between, and wherever the power fails.
func TestTwoStoresOfOneDisk(t *testing.T) {
	r := rand.New(rand.NewSource(6))
	for range 200 {
		d := newDisk(t, 25)
		stores := []*jour.Store{open(t, d), open(t, d), open(t, d)}
		kept := model{}
		for range 30 {
			s := stores[r.Intn(len(stores))]
			was := recordsOf(s)
			l := []jour.Change{{Key: fmt.Sprint(r.Intn(4)), Value: text(fmt.Sprint(r.Intn(10)), r.Intn(200)), Gone: r.Intn(4) == 0}}
			next := was.after(l...)
			if maps.Equal(next, was) {
				continue
			}
			d.Arm(r.Intn(8))
			if err := s.Commit(l...); err == nil {
				d.Arm(0)
				kept = next
			} else if err == api.ErrCrash {
				d.Crash(r.Intn(2), r.Intn(2), r.Intn(2))
				kept = either(t, "crash", d, kept, next)
				next = was
			} else {
				t.Fatal(err)
			}
			checkRecords(t, "the store", s, next)
			checkRecords(t, "the disk", open(t, d), kept)
		}
	}
}
