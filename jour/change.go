package jour

import (
	"cmp"
	"slices"

	"pendulum/api"
	"pendulum/wire"
)

// check returns the first error of changes as such: all keys come ahead of the values.
func check(l []Change) error {
	for _, c := range l {
		if len(c.Key) < 1 || len(c.Key) > api.MaxKey {
			return api.ErrRange
		}
	}
	for _, c := range l {
		if len(c.Value) > api.MaxValue {
			return api.ErrMany
		}
	}
	return nil
}

// settled returns the last change of each key, in ascending order of the keys: it makes those ahead of it void. One that is Gone is left without the value, which means nothing.
func settled(lists ...[]Change) []Change {
	l := slices.Concat(lists...)
	slices.SortStableFunc(l, func(a, b Change) int { return cmp.Compare(a.Key, b.Key) })
	var last []Change
	for i, c := range l {
		if i+1 < len(l) && l[i+1].Key == c.Key {
			continue
		}
		if c.Gone {
			c.Value = ""
		}
		last = append(last, c)
	}
	return last
}

// after returns the records that are left after all these changes.
func after(lists ...[]Change) []Change {
	return slices.DeleteFunc(settled(lists...), func(c Change) bool { return c.Gone })
}

// front returns what the sectors have of a change ahead of its value; one that is Gone ends there.
func front(c Change) []byte {
	b := wire.PutText(nil, c.Key)
	if c.Gone {
		return wire.Put(b, 1)
	}
	return wire.Put(wire.Put(b, 0), int64(len(c.Value)))
}

// encoded returns the changes as the sectors have them.
func encoded(l []Change) []byte {
	var b []byte
	for _, c := range l {
		b = append(append(b, front(c)...), c.Value...)
	}
	return b
}

// sectors returns the number of sectors that the changes take. It doesn't encode them, since every Commit asks it about all records.
func sectors(l []Change) int {
	n := 0
	for _, c := range l {
		n += len(front(c)) + len(c.Value)
	}
	return (n + api.SectorSize - 1) / api.SectorSize
}

// readRecords returns the records that are left after the changes of b; false if a store would not have written b.
func readRecords(b []byte) ([]Change, bool) {
	var l []Change
	r := wire.NewReader(b)
	for r.Left() > 0 && r.Err() == nil {
		c := Change{Key: r.Text(api.MaxKey)}
		c.Gone = r.Bool()
		if !c.Gone {
			c.Value = r.Text(api.MaxValue)
		}
		l = append(l, c)
	}
	records := after(l)
	if r.Err() != nil || check(l) != nil || len(records) > api.MaxRecords {
		return nil, false
	}
	return records, true
}
