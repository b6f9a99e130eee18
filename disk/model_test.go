package disk_test

import (
	"math/rand/v2"
	"slices"
	"strings"
	"testing"

	"maslin/api"
	"maslin/disk"
)

// loose is an unflushed write.
type loose struct {
	at   int
	data string
}

// model is the definition, word by word: what was flushed, and the list of what was not; and every content that each sector ever had.
type model struct {
	flushed []string
	loose   []loose
	ever    []map[string]int
	fuse    int
	down    bool
}

// modelled returns the model of a new disk.
func modelled(n int) *model {
	m := &model{fuse: -1}
	for range n {
		m.flushed = append(m.flushed, sectors("\x00"))
		m.ever = append(m.ever, map[string]int{sectors("\x00"): 1})
	}
	return m
}

// copied returns an independent equal model.
func (m *model) copied() *model {
	c := *m
	c.flushed = slices.Clone(m.flushed)
	c.loose = slices.Clone(m.loose)
	c.ever = nil
	for _, x := range m.ever {
		y := map[string]int{}
		for s := range x {
			y[s] = 1
		}
		c.ever = append(c.ever, y)
	}
	return &c
}

// reads returns what all sectors have.
func (m *model) reads() []string {
	now := slices.Clone(m.flushed)
	for _, w := range m.loose {
		now[w.at] = w.data
	}
	return now
}

// read is Read.
func (m *model) read(at, n int) (string, api.Errno) {
	if m.down {
		return "", api.ErrDown
	}
	if at < 0 || n < 0 || at+n > len(m.flushed) {
		return "", api.ErrArg
	}
	return strings.Join(m.reads()[at:at+n], ""), api.OK
}

// write is Write.
func (m *model) write(at int, s string) api.Errno {
	if m.down {
		return api.ErrDown
	}
	if len(s)%size != 0 || at < 0 || at+len(s)/size > len(m.flushed) {
		return api.ErrArg
	}
	for ; s != ""; s = s[size:] {
		if m.fuse == 0 {
			m.down = true
			return api.ErrDown
		}
		if m.fuse > 0 {
			m.fuse--
		}
		m.loose = append(m.loose, loose{at, s[:size]})
		m.ever[at][s[:size]] = 1
		at++
	}
	return api.OK
}

// flush is Flush.
func (m *model) flush() api.Errno {
	if m.down {
		return api.ErrDown
	}
	m.flushed, m.loose = m.reads(), nil
	return api.OK
}

// crash is Crash.
func (m *model) crash(keep string) {
	for i, w := range m.loose {
		if keep != "" && keep[i%len(keep)]&1 == 1 {
			m.flushed[w.at] = w.data
		}
	}
	m.loose, m.fuse, m.down = nil, -1, false
}

// text returns n sectors of bytes of which few are alike, or, now and then, a byte more or less.
func text(r *rand.Rand, n int) string {
	b := make([]byte, n*size)
	for i := range b {
		b[i] = byte(r.Uint32())
	}
	switch r.IntN(12) {
	case 0:
		return string(b) + "x"
	case 1:
		return string(b[min(1, len(b)):])
	}
	return string(b)
}

// keeps returns what a crash is told to keep.
func keeps(r *rand.Rand) string {
	return text(r, 1)[:r.IntN(20)]
}

// same fails unless a disk is as its model.
func same(t *testing.T, d *disk.Disk, m *model) {
	t.Helper()
	if d.Sectors() != len(m.flushed) || d.Loose() != len(m.loose) || d.Down() != m.down {
		t.Fatalf("%d sectors, %d unflushed, down %v; not %d, %d, %v", d.Sectors(), d.Loose(), d.Down(), len(m.flushed), len(m.loose), m.down)
	}
	got, e := d.Read(0, d.Sectors())
	want, f := m.read(0, len(m.flushed))
	if got != want || e != f {
		t.Fatalf("other sectors, or %v, not %v", e, f)
	}
}

// step does one thing with a disk and its model.
func step(t *testing.T, r *rand.Rand, d *disk.Disk, m *model) {
	t.Helper()
	n := d.Sectors()
	switch r.IntN(12) {
	case 0:
		wants(t, "Flush", d.Flush(), m.flush())
	case 1:
		k := r.IntN(12) - 2
		wants(t, "Fuse", d.Fuse(k), api.OK)
		m.fuse = max(k, -1)
	case 2:
		keep := keeps(r)
		wants(t, "Crash", d.Crash(keep), api.OK)
		m.crash(keep)
	case 3, 4, 5:
		at, k := r.IntN(n+2)-1, r.IntN(n+2)-1
		got, e := d.Read(at, k)
		want, f := m.read(at, k)
		if got != want || e != f {
			t.Fatalf("Read(%d, %d): %v, not %v, or other sectors", at, k, e, f)
		}
	default:
		at, s := r.IntN(n+2)-1, text(r, r.IntN(4))
		wants(t, "Write", d.Write(at, s), m.write(at, s))
	}
}

// P4.1 to P4.3: whatever is done in whatever order, a disk is as the definition says, and so are its copies.
func TestModel(t *testing.T) {
	for seed := range uint64(150) {
		r := rand.New(rand.NewPCG(4, seed))
		n := 1 + r.IntN(9)
		d, m := made(t, n), modelled(n)
		old, oldModel := d.Copy(), m.copied()
		for i := range 150 {
			step(t, r, d, m)
			same(t, d, m)
			if i%20 == 0 {
				same(t, old, oldModel)
				step(t, r, old, oldModel)
				same(t, old, oldModel)
				old, oldModel = d.Copy(), m.copied()
			}
		}
	}
}

// busy returns a disk with which much was done, and its model.
func busy(t *testing.T, r *rand.Rand) (*disk.Disk, *model) {
	n := 1 + r.IntN(7)
	d, m := made(t, n), modelled(n)
	for range r.IntN(60) {
		step(t, r, d, m)
	}
	return d, m
}

// P4.4: what was flushed survives each crash, unless an unflushed write of that sector is kept.
func TestFlushedSurvives(t *testing.T) {
	for seed := range uint64(300) {
		r := rand.New(rand.NewPCG(5, seed))
		d, m := busy(t, r)
		keep := keeps(r)
		d.Crash(keep)
		for at, want := range m.flushed {
			over := false
			for i, w := range m.loose {
				over = over || w.at == at && keep != "" && keep[i%len(keep)]%2 == 1
			}
			if got, e := d.Read(at, 1); e != api.OK || !over && got != want {
				t.Fatalf("seed %d: sector %d is lost: %v", seed, at, e)
			}
		}
	}
}

// P4.4: after a crash each sector is one that was written to it, complete, or all 0.
func TestSectorsComplete(t *testing.T) {
	for seed := range uint64(300) {
		r := rand.New(rand.NewPCG(6, seed))
		d, m := busy(t, r)
		d.Crash(keeps(r))
		for at := range m.flushed {
			if got, e := d.Read(at, 1); e != api.OK || m.ever[at][got] == 0 {
				t.Fatalf("seed %d: sector %d was never written so: %v", seed, at, e)
			}
		}
	}
}

// P4.4: if everything is kept, or everything was flushed, nothing is lost.
func TestNothingLost(t *testing.T) {
	for seed := range uint64(300) {
		r := rand.New(rand.NewPCG(7, seed))
		d, m := busy(t, r)
		want := strings.Join(m.reads(), "")
		for _, keep := range []string{"\x01", "\xff\x03", "135"} {
			c := d.Copy()
			c.Crash(keep)
			if got, e := c.Read(0, c.Sectors()); got != want || e != api.OK {
				t.Fatalf("seed %d: what was kept is lost: %v", seed, e)
			}
		}
		if d.Flush() != api.OK {
			continue
		}
		for _, keep := range []string{"", "\x00", "\x01", keeps(r)} {
			c := d.Copy()
			c.Crash(keep)
			if got, e := c.Read(0, c.Sectors()); got != want || e != api.OK {
				t.Fatalf("seed %d: what was flushed is lost: %v", seed, e)
			}
		}
	}
}

// P4.2, P4.3: the biggest disk, written whole, twice.
func TestBiggest(t *testing.T) {
	r := rand.New(rand.NewPCG(8, 1))
	d := made(t, api.MaxSectors)
	var all [2]string
	for i := range all {
		b := make([]byte, api.MaxSectors*size)
		for k := range b {
			b[k] = byte(r.Uint32())
		}
		all[i] = string(b)
		wants(t, "Write", d.Write(0, all[i]), api.OK)
	}
	state(t, d, 2*api.MaxSectors, false)
	first, last := d.Copy(), d.Copy()
	first.Crash(strings.Repeat("\x01", api.MaxSectors) + strings.Repeat("\x00", api.MaxSectors))
	last.Crash("\x01")
	for i, c := range []*disk.Disk{first, last} {
		if got, e := c.Read(0, api.MaxSectors); got != all[i] || e != api.OK {
			t.Errorf("disk %d has other sectors: %v", i, e)
		}
		wants(t, "Write beyond the end", c.Write(api.MaxSectors, sectors("a")), api.ErrArg)
	}
}
