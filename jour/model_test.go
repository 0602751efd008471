package jour_test

import (
	"fmt"
	"maps"
	"math/rand"
	"slices"
	"testing"

	"pendulum/api"
	"pendulum/disk"
	"pendulum/jour"
)

// trial is a store beside what the chapter tells of it.
type trial struct {
	t       testing.TB
	d       *disk.Disk
	s       *jour.Store
	records model
	kept    []model // what the disk may contain: more than one only after a power failure
}

func newTrial(t testing.TB, sectors int) *trial {
	d, s := newStore(t, sectors)
	return &trial{t, d, s, model{}, []model{{}}}
}

// wants returns the errors that a Commit may return.
func (x *trial) wants(l []jour.Change, next model) []error {
	for _, c := range l {
		if len(c.Key) < 1 || len(c.Key) > api.MaxKey {
			return []error{api.ErrRange}
		}
	}
	switch {
	case len(next) > api.MaxRecords:
		return []error{api.ErrMany}
	case maps.Equal(next, x.records):
		return []error{nil}
	case next.bytes() > x.d.Sectors()*api.SectorSize:
		return []error{api.ErrFull}
	case next.bytes() <= quarter(x.d.Sectors(), len(next)):
		return []error{nil, api.ErrCrash}
	}
	return []error{nil, api.ErrFull, api.ErrCrash}
}

// call notes what a call has answered that was to leave next.
func (x *trial) call(what string, err error, wants []error, next model) {
	x.t.Helper()
	if !slices.Contains(wants, err) || err == nil && x.d.Down() && !maps.Equal(next, x.records) || err == api.ErrCrash && !x.d.Down() {
		x.t.Fatalf("%s: %v, down: %v", what, err, x.d.Down())
	}
	switch {
	case err == nil && !maps.Equal(next, x.records), err == nil && what == "Compact":
		x.records, x.kept = next, []model{next}
	case err == api.ErrCrash:
		x.kept = append(x.kept, next)
	}
	checkRecords(x.t, what, x.s, x.records)
}

func (x *trial) commit(l []jour.Change) {
	x.t.Helper()
	next := x.records.after(l...)
	wants := x.wants(l, next)
	x.call("Commit", x.s.Commit(l...), wants, next)
}

func (x *trial) compact() {
	x.t.Helper()
	used := x.s.Used()
	err := x.s.Compact()
	if err == nil && x.s.Used() > used {
		x.t.Fatalf("Compact: Used was %d, and is %d", used, x.s.Used())
	}
	x.call("Compact", err, []error{nil, api.ErrCrash}, x.records)
}

// look opens the store of the disk, and takes it if it is asked to.
func (x *trial) look(take bool) {
	x.t.Helper()
	s, err := jour.Open(x.d)
	if x.d.Down() {
		if s != nil || err != api.ErrCrash {
			x.t.Fatalf("Open of a disk that is down: %v", err)
		}
		return
	}
	if err != nil {
		x.t.Fatal(err)
	}
	got := recordsOf(s)
	if !slices.ContainsFunc(x.kept, func(m model) bool { return maps.Equal(m, got) }) {
		x.t.Fatalf("the disk contains %.300q, want one of %.300q", got, x.kept)
	}
	x.kept = []model{got}
	if take {
		x.s, x.records = s, got
	}
}

// script is bytes that tell which calls to do.
type script []byte

func (b *script) next(n int) int {
	if len(*b) == 0 {
		return 0
	}
	c := (*b)[0]
	*b = (*b)[1:]
	return int(c) % n
}

func (b *script) change() jour.Change {
	sizes := []int{0, 1, 40, 120, 128, 250, 700, 2000}
	keys := []string{"a", "b", "c", "ab", "", text("k", api.MaxKey), text("k", api.MaxKey+1)}
	key := keys[b.next(4)]
	if kind := b.next(40); kind < 3 {
		key = keys[4+kind]
	}
	return jour.Change{Key: key, Value: text(fmt.Sprint(b.next(10)), sizes[b.next(len(sizes))]), Gone: b.next(4) == 0}
}

// play does the calls of a script, on a disk of few sectors.
func play(t testing.TB, b script) {
	t.Helper()
	x := newTrial(t, 1+b.next(90))
	for len(b) > 0 {
		switch b.next(10) {
		case 0, 1, 2, 3, 4:
			var l []jour.Change
			for range b.next(4) {
				l = append(l, b.change())
			}
			x.commit(l)
		case 5:
			x.compact()
		case 6:
			if !x.d.Down() {
				x.d.Arm(b.next(12))
			}
		case 7:
			x.d.Crash(b.next(2), b.next(2), b.next(2), b.next(2), b.next(2), b.next(2))
			x.look(false)
		case 8:
			x.d.Crash(b.next(2), b.next(2), b.next(2), b.next(2), b.next(2), b.next(2))
			x.look(true)
		case 9:
			x.look(b.next(2) == 0)
		}
	}
}

func TestScripts(t *testing.T) {
	r := rand.New(rand.NewSource(7))
	for range 1500 {
		b := make(script, r.Intn(400))
		for i := range b {
			b[i] = byte(r.Intn(256))
		}
		play(t, b)
	}
}

func FuzzStore(f *testing.F) {
	f.Add([]byte{20, 0, 1, 0, 9, 1, 2, 1, 6, 3, 0, 1, 1, 9, 2, 3, 1, 7, 1, 1, 1, 1, 1, 1, 0, 2, 1, 9, 4, 4, 1, 0, 9, 5, 5, 0, 5, 8, 0})
	f.Add([]byte("a store is opened, and the power fails, and it is opened again"))
	f.Fuzz(func(t *testing.T, b []byte) { play(t, b) })
}
