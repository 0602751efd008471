package jour_test

import (
	"fmt"
	"maps"
	"slices"
	"strings"
	"testing"

	"pendulum/api"
	"pendulum/disk"
	"pendulum/jour"
)

// model is the records of a store as the chapter tells them.
type model map[string]string

// after returns the records after the changes, which are executed one after the other.
func (m model) after(l ...jour.Change) model {
	next := maps.Clone(m)
	if next == nil {
		next = model{}
	}
	for _, c := range l {
		if c.Gone {
			delete(next, c.Key)
		} else {
			next[c.Key] = c.Value
		}
	}
	return next
}

// bytes returns the number of bytes of all keys and values.
func (m model) bytes() int {
	n := 0
	for k, v := range m {
		n += len(k) + len(v)
	}
	return n
}

func set(key, value string) jour.Change { return jour.Change{Key: key, Value: value} }

func gone(key string) jour.Change { return jour.Change{Key: key, Gone: true} }

func newDisk(t testing.TB, sectors int) *disk.Disk {
	t.Helper()
	d, err := disk.New(sectors)
	if err != nil {
		t.Fatal(err)
	}
	return d
}

func open(t testing.TB, d *disk.Disk) *jour.Store {
	t.Helper()
	s, err := jour.Open(d)
	if err != nil {
		t.Fatal(err)
	}
	return s
}

func newStore(t testing.TB, sectors int) (*disk.Disk, *jour.Store) {
	t.Helper()
	d := newDisk(t, sectors)
	return d, open(t, d)
}

func commit(t testing.TB, s *jour.Store, l ...jour.Change) {
	t.Helper()
	if err := s.Commit(l...); err != nil {
		t.Fatal(err)
	}
}

// recordsOf returns the records of a store, as its Keys and Get tell them.
func recordsOf(s *jour.Store) model {
	m := model{}
	for _, k := range s.Keys() {
		m[k], _ = s.Get(k)
	}
	return m
}

func checkRecords(t testing.TB, what string, s *jour.Store, want model) {
	t.Helper()
	if keys := s.Keys(); !slices.Equal(keys, slices.Sorted(maps.Keys(want))) {
		t.Fatalf("%s: the keys are %.300q, want those of %.300q", what, keys, want)
	}
	for k, v := range want {
		if got, ok := s.Get(k); got != v || !ok {
			t.Fatalf("%s: Get(%q) = %.50q, %v, want %.50q", what, k, got, ok, v)
		}
	}
}

// checkKept looks at a store, and at the one that its disk contains.
func checkKept(t testing.TB, what string, d *disk.Disk, s *jour.Store, want model) {
	t.Helper()
	checkRecords(t, what, s, want)
	again := open(t, d)
	checkRecords(t, what+", opened again", again, want)
	if s.Used() != again.Used() {
		t.Fatalf("%s: Used is %d, and %d when it is opened again", what, s.Used(), again.Used())
	}
}

// sight returns all that there is to see of a store and of its disk.
func sight(d *disk.Disk, s *jour.Store) string {
	c := d.Clone()
	c.Crash()
	out := fmt.Sprint(recordsOf(s), s.Used(), d.Calls(), d.Pending(), d.Down())
	for i := range c.Sectors() {
		b, ok, err := c.Read(i)
		out += fmt.Sprint(b, ok, err)
	}
	return out
}

// unchanged returns a function that checks that everything is still as it was.
func unchanged(t testing.TB, what string, d *disk.Disk, s *jour.Store) func() {
	was := sight(d, s)
	return func() {
		t.Helper()
		if sight(d, s) != was {
			t.Errorf("%s has changed something", what)
		}
	}
}

func TestExample(t *testing.T) {
	d, s := newStore(t, 100)
	commit(t, s, set("a", "1"))
	checkKept(t, "the first Commit", d, s, model{"a": "1"})
	commit(t, s, set("a", "2"), set("b", "3"))
	checkKept(t, "the second Commit", d, s, model{"a": "2", "b": "3"})
	if got := s.Keys(); !slices.Equal(got, []string{"a", "b"}) {
		t.Errorf("Keys = %q", got)
	}
}

func TestNewDiskContainsNoRecords(t *testing.T) {
	for _, sectors := range []int{1, 2, 3, 100, api.MaxSectors} {
		d, s := newStore(t, sectors)
		checkKept(t, "new", d, s, model{})
		if s.Used() != 0 {
			t.Errorf("%d sectors: Used = %d", sectors, s.Used())
		}
		if d.Calls() != 0 || d.Pending() != 0 {
			t.Errorf("%d sectors: Open has written", sectors)
		}
	}
}

func TestGetOfWhatIsNotThere(t *testing.T) {
	_, s := newStore(t, 100)
	absent := []string{"", "a", "b", "bb\x00", "bbb", "c", strings.Repeat("b", api.MaxKey), strings.Repeat("b", api.MaxKey+1), "\xff"}
	for range 2 {
		for _, k := range absent {
			if v, ok := s.Get(k); v != "" || ok {
				t.Errorf("Get(%q) = %q, %v", k, v, ok)
			}
		}
		commit(t, s, set("bb", "1"))
	}
	if v, ok := s.Get("bb"); v != "1" || !ok {
		t.Errorf("Get(bb) = %q, %v", v, ok)
	}
}

func TestKeysAreInBytewiseOrder(t *testing.T) {
	d, s := newStore(t, 100)
	want := []string{"\x00", "\x00\x00", "A", "a", "a\x00", "aa", "aaa", "aab", "ab", "b", "é", "世", "\xff", "\xff\xff"}
	m := model{}
	for i := range want {
		k := want[(i*5+3)%len(want)]
		commit(t, s, set(k, "v"+k))
		m[k] = "v" + k
		checkKept(t, k, d, s, m)
	}
	if got := s.Keys(); !slices.Equal(got, want) {
		t.Errorf("Keys = %q, want %q", got, want)
	}
}

func TestCommitExecutesOneChangeAfterTheOther(t *testing.T) {
	start := model{"a": "1", "b": "2"}
	for _, l := range [][]jour.Change{
		{set("a", "2")},
		{set("a", "2"), set("a", "3")},
		{set("a", "2"), set("a", "3"), set("a", "1")},
		{set("c", "1"), set("c", "")},
		{gone("a")},
		{gone("a"), set("a", "4")},
		{gone("a"), set("a", "1")},
		{set("a", "5"), gone("a")},
		{set("c", "1"), gone("c")},
		{set("c", "1"), gone("c"), set("c", "2")},
		{gone("c"), set("c", "2")},
		{gone("a"), gone("a"), gone("b")},
		{set("a", "x"), set("b", "y"), set("a", "z"), gone("b"), set("c", "w"), set("b", "")},
		{{Key: "a", Value: "not set", Gone: true}},
		{{Key: "c", Value: "not set", Gone: true}, set("d", "1")},
		{set("b", "1"), set("a", "2"), set("d", "4"), set("c", "3")},
	} {
		d, s := newStore(t, 100)
		commit(t, s, set("a", "1"), set("b", "2"))
		given := slices.Clone(l)
		commit(t, s, l...)
		checkKept(t, fmt.Sprint(l), d, s, start.after(given...))
		if !slices.Equal(l, given) {
			t.Errorf("Commit has changed its argument: %v, was %v", l, given)
		}
	}
}

func TestCommitThatChangesNothingWritesNothing(t *testing.T) {
	d, s := newStore(t, 100)
	for i, l := range [][]jour.Change{
		nil,
		{},
		{gone("a")},
		{set("a", "1"), gone("a")},
		{{Key: "a", Value: "1", Gone: true}, gone("b")},
	} {
		check := unchanged(t, fmt.Sprint("of an empty store, ", i), d, s)
		commit(t, s, l...)
		check()
	}
	commit(t, s, set("a", "1"), set("b", ""))
	for i, l := range [][]jour.Change{
		nil,
		{set("a", "1")},
		{set("b", "")},
		{set("b", ""), set("a", "1")},
		{gone("c")},
		{set("c", "1"), gone("c")},
		{set("a", "2"), set("a", "1")},
		{gone("b"), set("b", "")},
	} {
		check := unchanged(t, fmt.Sprint("of a store with records, ", i), d, s)
		commit(t, s, l...)
		check()
		d.Arm(1)
		commit(t, s, l...)
		d.Arm(0)
		check()
	}
	d.Arm(1)
	if err := d.Flush(); err != api.ErrCrash {
		t.Fatal(err)
	}
	if err := s.Commit(set("a", "1"), gone("c")); err != nil {
		t.Errorf("of a disk that is down: %v", err)
	}
}

func TestLongestAndShortest(t *testing.T) {
	d, s := newStore(t, 4000)
	m := model{}
	for _, k := range []string{"k", "\x00", strings.Repeat("k", api.MaxKey), strings.Repeat("\xff", api.MaxKey-1)} {
		for _, size := range []int{0, 1, 63, 64, 127, 128, 129, 8191, 8192, api.MaxValue - 1, api.MaxValue} {
			c := set(k, strings.Repeat("v", size))
			commit(t, s, c)
			m[k] = c.Value
			checkKept(t, fmt.Sprint(len(k), size), d, s, m)
			commit(t, s, jour.Change{Key: "absent", Value: c.Value, Gone: true})
			checkKept(t, fmt.Sprint("gone", len(k), size), d, s, m)
		}
	}
}

func TestEveryByteMayStandInKeysAndValues(t *testing.T) {
	d, s := newStore(t, 1000)
	m := model{}
	var all []byte
	for i := range 256 {
		all = append(all, byte(i))
		k := string([]byte{byte(i)})
		m[k] = string(all)
		commit(t, s, set(k, m[k]))
	}
	checkKept(t, "all bytes", d, s, m)
}

func many(from, to int) []jour.Change {
	var l []jour.Change
	for i := range to - from {
		l = append(l, set(fmt.Sprintf("k%03d", from+i), fmt.Sprint(from+i)))
	}
	return l
}

func TestMostRecords(t *testing.T) {
	d, s := newStore(t, 1000)
	full := model{}.after(many(0, api.MaxRecords)...)
	refused := func(l ...jour.Change) {
		t.Helper()
		check := unchanged(t, "what is refused", d, s)
		if err := s.Commit(l...); err != api.ErrMany {
			t.Errorf("%d changes: %v", len(l), err)
		}
		check()
	}
	refused(many(0, api.MaxRecords+1)...)
	commit(t, s, many(0, api.MaxRecords)...)
	checkKept(t, "all at once", d, s, full)
	refused(set("more", ""))
	refused(set("more", ""), set("more", "1"), set("k000", "x"))
	refused(gone("k000"), set("more", ""), set("most", ""))
	refused(gone("k000"), set("more", ""), set("k000", "0"))
	refused(gone("absent"), set("more", ""))

	swap := []jour.Change{set("more", "1"), gone("k007")}
	for _, l := range [][]jour.Change{swap, {gone("more"), set("k007", "7")}} {
		commit(t, s, l...)
		full = full.after(l...)
		checkKept(t, "one for another", d, s, full)
	}
	commit(t, s, set("k007", "another value"))
	commit(t, s, append(many(500, 900), func() (l []jour.Change) {
		for _, c := range many(500, 900) {
			l = append(l, gone(c.Key))
		}
		return
	}()...)...)
	full["k007"] = "another value"
	checkKept(t, "more in between", d, s, full)
	refused(set("more", ""))
	commit(t, s, gone("k255"))
	commit(t, s, set("more", ""))
	checkKept(t, "removed ahead", d, s, full.after(gone("k255"), set("more", "")))
}

func TestCompact(t *testing.T) {
	d, s := newStore(t, 200)
	for range 2 {
		if err := s.Compact(); err != nil {
			t.Fatal(err)
		}
		checkKept(t, "empty", d, s, model{})
		if s.Used() != 0 {
			t.Errorf("empty: Used = %d", s.Used())
		}
	}
	m := model{}
	for i := range 60 {
		c := set(fmt.Sprint("k", i%7), strings.Repeat("v", i*10))
		if i%11 == 10 {
			c = gone(c.Key)
		}
		commit(t, s, c)
		m = m.after(c)
		if i%10 != 3 {
			continue
		}
		used := s.Used()
		if err := s.Compact(); err != nil {
			t.Fatal(err)
		}
		checkKept(t, fmt.Sprint(i), d, s, m)
		if s.Used() > used || s.Used() < (m.bytes()+api.SectorSize-1)/api.SectorSize {
			t.Errorf("%d: Used was %d, and is %d for %d bytes", i, used, s.Used(), m.bytes())
		}
	}
}

func TestCompactMakesRoom(t *testing.T) {
	_, s := newStore(t, 100)
	commit(t, s, set("large", strings.Repeat("v", 3000)))
	for i := range 9 {
		commit(t, s, set("small", fmt.Sprint(i)))
	}
	used := s.Used()
	if err := s.Compact(); err != nil {
		t.Fatal(err)
	}
	if s.Used() >= used {
		t.Errorf("Used was %d, and is %d", used, s.Used())
	}
}

func TestUsed(t *testing.T) {
	d, s := newStore(t, 300)
	m := model{}
	for i := range 40 {
		c := set(fmt.Sprint(i%5), strings.Repeat("v", i*20))
		commit(t, s, c)
		m = m.after(c)
		if s.Used() < m.bytes()/api.SectorSize || s.Used() < 1 || s.Used() > d.Sectors() {
			t.Errorf("%d: Used = %d for %d bytes", i, s.Used(), m.bytes())
		}
	}
	commit(t, s, gone("0"), gone("1"), gone("2"), gone("3"), gone("4"))
	checkKept(t, "emptied", d, s, model{})
	if s.Used() != 0 {
		t.Errorf("emptied: Used = %d", s.Used())
	}
}

func TestUsedIsWhatAFirstCommitWrites(t *testing.T) {
	for size := range 1000 {
		d, s := newStore(t, 30)
		commit(t, s, set("a", text("v", size)))
		written := 0
		for i := range d.Sectors() {
			if _, ok, _ := d.Read(i); ok {
				written++
			}
		}
		if s.Used() != written {
			t.Errorf("%d bytes: Used = %d, but %d sectors were written", size, s.Used(), written)
		}
	}
}

// Where the records take no more sectors than their changes, nothing void is left.
func TestSmallStoreStaysSmall(t *testing.T) {
	_, s := newStore(t, 100)
	commit(t, s, set("a", "0"))
	used := s.Used()
	for i := range 20 {
		commit(t, s, set("a", fmt.Sprint("x", i)))
		if s.Used() != used {
			t.Errorf("%d: Used was %d, and is %d", i, used, s.Used())
		}
	}
}

// A change of a small record is not to cost the writing of the large ones.
func TestCommitWritesWhatChanges(t *testing.T) {
	d, s := newStore(t, 2000)
	commit(t, s, set("large", strings.Repeat("v", api.MaxValue)), set("small", "1"))
	for i := range 20 {
		calls := d.Calls()
		commit(t, s, set("small", fmt.Sprint("x", i)))
		if n := d.Calls() - calls; n > 4 {
			t.Errorf("%d: a small change took %d Writes and Flushes", i, n)
		}
	}
}

func TestFewSectors(t *testing.T) {
	for sectors := 1; sectors <= 12; sectors++ {
		d, s := newStore(t, sectors)
		m := model{}
		for size := range 800 {
			check := unchanged(t, fmt.Sprint(sectors, size), d, s)
			c := set("a", strings.Repeat("v", size))
			err := s.Commit(c)
			if err == nil {
				m = m.after(c)
			} else if err == api.ErrFull {
				check()
			} else {
				t.Fatal(err)
			}
			if size > sectors*api.SectorSize && err == nil {
				t.Errorf("%d sectors hold %d bytes", sectors, size)
			}
			checkKept(t, fmt.Sprint(sectors, size), d, s, m)
		}
		if _, ok := m["a"]; ok != (sectors >= 3) {
			t.Errorf("%d sectors: a record was set: %v", sectors, ok)
		}
		if err := s.Compact(); err != nil {
			t.Errorf("%d sectors: Compact: %v", sectors, err)
		}
		checkKept(t, fmt.Sprint(sectors, " compacted"), d, s, m)
		commit(t, s, gone("a"))
		checkKept(t, fmt.Sprint(sectors, " emptied"), d, s, model{})
	}
}

// What a store has answered can be written to and appended to.
func TestKeysAreNew(t *testing.T) {
	d, s := newStore(t, 100)
	m := model{"a": "1", "b": "2", "c": "3", "d": "4", "e": "5"}
	for k, v := range m {
		commit(t, s, set(k, v))
	}
	one, two := s.Keys(), s.Keys()
	long := one[:cap(one)]
	for i := range long {
		long[i] = "!"
	}
	_ = append(s.Keys()[:2], "x", "y")
	if !slices.Equal(two, []string{"a", "b", "c", "d", "e"}) {
		t.Errorf("another list is %q", two)
	}
	checkKept(t, "after that", d, s, m)
	two = append(two, "f")
	commit(t, s, set("0", "0"))
	if !slices.Equal(two, []string{"a", "b", "c", "d", "e", "f"}) {
		t.Errorf("a Commit has changed a list to %q", two)
	}
}

// A store keeps nothing of the list of changes, and doesn't look behind its end.
func TestCommitKeepsNothingOfItsArgument(t *testing.T) {
	d, s := newStore(t, 100)
	whole := []jour.Change{set("z", "9"), set("b", "2"), set("a", "1"), set("b", "3"), set("", "behind"), gone("a")}
	given := slices.Clone(whole)
	commit(t, s, whole[1:4]...)
	if !slices.Equal(whole, given) {
		t.Errorf("Commit has changed its argument: %v", whole)
	}
	for i := range whole {
		whole[i] = set("!", "!")
	}
	m := model{"a": "1", "b": "3"}
	checkKept(t, "after that", d, s, m)
	if err := s.Compact(); err != nil {
		t.Fatal(err)
	}
	checkKept(t, "compacted", d, s, m)
}
