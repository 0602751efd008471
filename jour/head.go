package jour

import (
	"math"

	"pendulum/disk"
	"pendulum/wire"
)

// head tells which sectors of the disk count. Its zero value is that of a disk that was never written.
type head struct {
	age  int64 // one more with each head, so that a store sees whether another one has been written since its own
	half int   // 0 or 1
	used int   // the sectors of that half that count, from its first one on
}

// room returns the number of sectors of a half.
func room(d *disk.Disk) int { return (d.Sectors() - 1) / 2 }

// first returns the first sector of the half.
func (h head) first(d *disk.Disk) int { return 1 + h.half*room(d) }

// encoded returns the head as sector 0 has it.
func (h head) encoded() []byte {
	return wire.Put(wire.Put(wire.Put(nil, h.age), int64(h.half)), int64(h.used))
}

// readHead returns the head of the disk. One that can't be read is none of a store's, and as good as none.
func readHead(d *disk.Disk) (head, error) {
	b, _, err := d.Read(0)
	if err != nil {
		return head{}, err
	}
	r := wire.NewReader(b)
	h := head{age: r.Num(math.MinInt64, math.MaxInt64)}
	h.half = int(r.Num(0, 1))
	h.used = int(r.Num(0, int64(room(d))))
	if r.Err() != nil || r.Left() > 0 {
		return head{}, nil
	}
	return h, nil
}

// readSectors returns the contents of all sectors that count by h, one behind the other.
func readSectors(d *disk.Disk, h head) ([]byte, error) {
	var all []byte
	for i := range h.used {
		b, _, err := d.Read(h.first(d) + i)
		if err != nil {
			return nil, err
		}
		all = append(all, b...)
	}
	return all, nil
}
