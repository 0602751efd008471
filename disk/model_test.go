package disk_test

import (
	"math/rand"
	"testing"

	"pendulum/api"
	"pendulum/disk"
)

// model is a disk as the chapter tells it: of every sector, the contents since the last Flush, the first of them that of the Flush.
type model struct {
	contents [][]string
	calls    int
	fails    []bool // of the calls to come, whether the power fails at it
	down     bool
}

const never = "-"

func newModel(sectors int) *model {
	m := &model{contents: make([][]string, sectors)}
	for i := range m.contents {
		m.contents[i] = []string{never}
	}
	return m
}

func (m *model) last(i int) string { return m.contents[i][len(m.contents[i])-1] }

func (m *model) settle(i int, text string) { m.contents[i] = []string{text} }

// fail takes a call from those to come, and returns whether it has no power.
func (m *model) fail() bool {
	if m.down {
		return true
	}
	if len(m.fails) > 0 {
		m.down = m.fails[0]
		m.fails = m.fails[1:]
	}
	return m.down
}

func (m *model) write(i int, text string) error {
	switch {
	case m.fail():
		return api.ErrCrash
	case i < 0 || i >= len(m.contents):
		return api.ErrFull
	case len(text) > api.SectorSize:
		return api.ErrMany
	}
	m.contents[i] = append(m.contents[i], `"`+text+`"`)
	m.calls++
	return nil
}

func (m *model) flush() error {
	if m.fail() {
		return api.ErrCrash
	}
	for i := range m.contents {
		m.settle(i, m.last(i))
	}
	m.calls++
	return nil
}

func (m *model) arm(n int) {
	m.fails = nil
	if n >= 1 {
		m.fails = make([]bool, n)
		m.fails[n-1] = true
	}
}

func (m *model) crash(picks []int) {
	m.fails, m.down = nil, false
	for i, list := range m.contents {
		if len(list) == 1 {
			continue
		}
		keep := list[0]
		if len(picks) > 0 {
			if picks[0]%2 != 0 {
				keep = m.last(i)
			}
			picks = picks[1:]
		}
		m.settle(i, keep)
	}
}

func (m *model) clone() *model {
	c := *m
	c.contents = nil
	for _, list := range m.contents {
		c.contents = append(c.contents, append([]string{}, list...))
	}
	return &c
}

// checkModel holds a disk against its model.
func checkModel(t *testing.T, d *disk.Disk, m *model) {
	t.Helper()
	pending := 0
	for i := -1; i <= len(m.contents); i++ {
		want := api.ErrFull.Error()
		if i >= 0 && i < len(m.contents) {
			want = m.last(i)
			if len(m.contents[i]) > 1 {
				pending++
			}
		}
		if m.down {
			want = api.ErrCrash.Error()
		}
		if got := sector(t, d, i); got != want {
			t.Errorf("sector %d is %s, want %s", i, got, want)
		}
	}
	checkCounts(t, "the model", d, pending, m.calls)
	if d.Sectors() != len(m.contents) || d.Down() != m.down {
		t.Errorf("%d sectors, down %v; want %d, %v", d.Sectors(), d.Down(), len(m.contents), m.down)
	}
}

// follow does to some disks what the bytes say, two for a call and one for the disk it is of, and to their models.
func follow(t *testing.T, steps []byte) {
	d, err := disk.New(4)
	if err != nil {
		t.Fatal(err)
	}
	disks, models := []*disk.Disk{d}, []*model{newModel(4)}
	same := func(got, want error) {
		t.Helper()
		if got != want {
			t.Errorf("the error is %v, want %v", got, want)
		}
	}
	for ; len(steps) >= 3; steps = steps[3:] {
		which := int(steps[2]) % len(disks)
		d, m, arg := disks[which], models[which], int(steps[1])
		switch steps[0] % 8 {
		case 0, 1, 2:
			i, text := arg%6-1, string(rune('a'+arg/6%20))
			same(d.Write(i, []byte(text)), m.write(i, text))
		case 3:
			text := make([]byte, api.SectorSize+1)
			same(d.Write(arg%6-1, text), m.write(arg%6-1, string(text)))
		case 4:
			same(d.Flush(), m.flush())
		case 5:
			d.Arm(arg%12 - 2)
			m.arm(arg%12 - 2)
		case 6:
			picks := []int{arg & 1, -(arg >> 1 & 1), arg >> 2 & 3, 5}[:arg>>4%5]
			d.Crash(picks...)
			m.crash(picks)
		case 7:
			if len(disks) < 5 {
				disks, models = append(disks, d.Clone()), append(models, m.clone())
			}
		}
		for k := range disks {
			checkModel(t, disks[k], models[k])
		}
		if t.Failed() {
			t.Fatalf("%d bytes are left", len(steps))
		}
	}
}

func TestManyCalls(t *testing.T) {
	source := rand.New(rand.NewSource(3))
	for range 300 {
		steps := make([]byte, 3*200)
		source.Read(steps)
		follow(t, steps)
	}
}

func FuzzDisk(f *testing.F) {
	f.Add([]byte{0, 1, 0, 0, 2, 0, 4, 0, 0, 0, 7, 0, 5, 3, 0, 6, 0x21, 0})
	f.Add([]byte{0, 1, 0, 7, 0, 0, 4, 0, 1, 0, 7, 1, 6, 0xff, 0})
	f.Fuzz(follow)
}
