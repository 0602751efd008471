package jour_test

import (
	"fmt"
	"math/rand"
	"strings"
	"testing"

	"pendulum/api"
	"pendulum/jour"
)

// quarter is q of P4.3.
func quarter(sectors, records int) int {
	return sectors*api.SectorSize/4 - 2048 - 48*records
}

// filled returns that many records, with these bytes of keys and values in total (or as many as they can hold). The sizes are as even as possible, or the first ones are as large as possible.
func filled(records, total int, even bool, fill string) []jour.Change {
	var l []jour.Change
	for i := range records {
		key := fmt.Sprintf("%x", i)
		rest := records - 1 - i
		size := total - 2*rest // the keys to come have at most two bytes
		if even {
			size = total / (rest + 1)
		}
		size = max(0, min(size-len(key), api.MaxValue))
		total -= len(key) + size
		l = append(l, set(key, strings.Repeat(fill, size)))
	}
	return l
}

func TestQuarterHasRoom(t *testing.T) {
	for _, sectors := range []int{64, 65, 66, 67, 68, 69, 80, 100, 127, 128, 400, 447, 448, 449, 464, 465, 500, 1024, 4001, api.MaxSectors - 1, api.MaxSectors} {
		for _, records := range []int{0, 1, 2, 3, 5, 16, 17, 100, 255, 256} {
			q := quarter(sectors, records)
			for _, even := range []bool{false, true} {
				if q < 2*records {
					continue
				}
				d, s := newStore(t, sectors)
				what := fmt.Sprintf("%d sectors, %d records, even: %v", sectors, records, even)
				for i := range 5 {
					l := filled(records, q, even, fmt.Sprint(i))
					if err := s.Commit(l...); err != nil {
						t.Fatalf("%s, %d: %v", what, i, err)
					}
					checkKept(t, what, d, s, model{}.after(l...))
				}
				m := recordsOf(s)
				if m.bytes() > q {
					t.Fatalf("%s: the test has %d bytes, more than %d", what, m.bytes(), q)
				}
				for i, c := range filled(records, q, even, "x") {
					if err := s.Commit(c); err != nil {
						t.Fatalf("%s, one by one, %d: %v", what, i, err)
					}
					m = m.after(c)
				}
				checkKept(t, what+", one by one", d, s, m)
			}
		}
	}
}

// randomChanges returns changes of some of the keys, of small, large and usual sizes.
func randomChanges(r *rand.Rand, keys int) []jour.Change {
	var l []jour.Change
	for range 1 + r.Intn(4) {
		key := fmt.Sprint("k", r.Intn(keys))
		size := r.Intn(4)
		switch r.Intn(4) {
		case 0:
			size = r.Intn(api.MaxValue + 1)
		case 1, 2:
			size = r.Intn(300)
		}
		l = append(l, jour.Change{Key: key, Value: strings.Repeat(string(rune('a'+r.Intn(26))), size), Gone: r.Intn(5) == 0})
	}
	return l
}

// Commits of all sizes: one within the quarter is never refused, and one that is refused changes nothing.
func TestRoomOverAndOver(t *testing.T) {
	r := rand.New(rand.NewSource(4))
	accepted, refused, beyond := 0, 0, 0
	for round := range 60 {
		sectors := []int{64, 70, 100, 200, 460, 600, 1500}[round%7] + r.Intn(3)
		keys := []int{1, 3, 20, 256}[r.Intn(4)]
		d, s := newStore(t, sectors)
		m := model{}
		for range 150 {
			l := randomChanges(r, keys)
			next := m.after(l...)
			calls := d.Calls()
			err := s.Commit(l...)
			switch within := next.bytes() <= quarter(sectors, len(next)); {
			case err == nil && within:
				accepted++
				m = next
			case err == nil:
				beyond++
				m = next
			case err == api.ErrFull && !within:
				refused++
				if d.Calls() != calls {
					t.Fatal("written, though it is full")
				}
			default:
				t.Fatalf("%d sectors, %d records, %d bytes: %v", sectors, len(next), next.bytes(), err)
			}
			checkRecords(t, "over and over", s, m)
			if r.Intn(10) == 0 {
				checkKept(t, "over and over", d, s, m)
			}
			if r.Intn(20) == 0 {
				s = open(t, d)
			}
			if r.Intn(20) == 0 {
				if err := s.Compact(); err != nil {
					t.Fatal(err)
				}
			}
		}
	}
	if accepted < 1000 || refused < 100 || beyond < 100 {
		t.Errorf("the test is not what it should be: %d accepted, %d refused, %d beyond the quarter", accepted, refused, beyond)
	}
}

// From a disk that is as full as it gets, a Commit leads back into the quarter.
func TestFullDiskIsNotStuck(t *testing.T) {
	for _, sectors := range []int{64, 101, 500} {
		d, s := newStore(t, sectors)
		m := model{}
		for size := api.MaxValue; size > 0; size /= 2 {
			for len(m) < api.MaxRecords {
				c := set(fmt.Sprint(len(m)), strings.Repeat("v", size))
				calls := d.Calls()
				if err := s.Commit(c); err == api.ErrFull && d.Calls() == calls {
					checkRecords(t, "refused", s, m)
					break
				} else if err != nil {
					t.Fatal(err)
				}
				m = m.after(c)
			}
		}
		checkKept(t, "full", d, s, m)
		if m.bytes() < quarter(sectors, len(m)) {
			t.Errorf("%d sectors were full with %d bytes", sectors, m.bytes())
		}
		if err := s.Compact(); err != nil {
			t.Errorf("Compact: %v", err)
		}
		checkKept(t, "full and compacted", d, s, m)
		for k := range recordsOf(s) {
			if err := s.Commit(gone(k)); err != nil {
				t.Fatalf("%d sectors: removing: %v", sectors, err)
			}
			m = m.after(gone(k))
		}
		checkKept(t, "emptied", d, s, model{})
		commit(t, s, set("a", strings.Repeat("v", max(0, quarter(sectors, 1)-1))))
	}
}
