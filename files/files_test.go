package files_test

import (
	"encoding/binary"
	"hash/crc32"
	"maps"
	"math"
	"slices"
	"strings"
	"testing"

	"maslin/api"
	"maslin/disk"
	"maslin/files"
	"maslin/wal"
)

const size = api.SectorSize

// state is files by their names.
type state map[string]string

// after returns the state with the changes applied.
func (s state) after(l ...api.Change) state {
	c := state{}
	maps.Copy(c, s)
	for _, x := range l {
		if x.Gone {
			delete(c, x.Name)
		} else {
			c[x.Name] = x.Data
		}
	}
	return c
}

// four returns a number as four bytes.
func four(n int) string {
	return string(binary.LittleEndian.AppendUint32(nil, uint32(n)))
}

// sized returns s with its length ahead of it.
func sized(s string) string {
	return four(len(s)) + s
}

// code returns the encoding of files, by the definition.
func (s state) code() string {
	var b strings.Builder
	b.WriteString(four(len(s)))
	for _, name := range slices.Sorted(maps.Keys(s)) {
		b.WriteString(sized(name) + sized(s[name]))
	}
	return b.String()
}

// zeros returns n sectors of bytes 0.
func zeros(n int) string {
	return strings.Repeat("\x00", n*size)
}

// xs returns n bytes.
func xs(n int) string {
	return strings.Repeat("x", n)
}

// whole returns s with bytes 0 behind it up to the end of a sector.
func whole(s string) string {
	for len(s)%size != 0 {
		s += "\x00"
	}
	return s
}

// sealed returns s with its checksum behind it.
func sealed(s string) string {
	return s + string(binary.LittleEndian.AppendUint32(nil, crc32.ChecksumIEEE([]byte(s))))
}

// headed returns a header's sector, by the definition.
func headed(area byte, seq uint64) string {
	b := append([]byte("FIL1"), area)
	return whole(sealed(string(binary.LittleEndian.AppendUint64(b, seq))))
}

// logged returns the header's sector of a log without groups.
func logged(gen uint64) string {
	b := binary.LittleEndian.AppendUint64([]byte("LOG1"), gen)
	return whole(sealed(string(b) + four(0)))
}

// put, and gone, return changes.
func put(name, data string) api.Change { return api.Change{Name: name, Data: data} }
func gone(name string) api.Change      { return api.Change{Name: name, Gone: true} }

// texts returns a group's strings, by the definition.
func texts(l ...api.Change) []string {
	var r []string
	for _, x := range l {
		kind := "\x00"
		if x.Gone {
			kind = "\x01"
		}
		r = append(r, kind+x.Name, x.Data)
	}
	return r
}

// parts are where a disk with files has what, by the definition.
type parts struct {
	log   int
	area  int
	areas [2]int
}

// partsOf returns those of a disk of that many sectors.
func partsOf(sectors int) parts {
	p := parts{log: 2}
	for (p.log+1)*8 <= sectors {
		p.log++
	}
	for 1+p.log+2*(p.area+1) <= sectors {
		p.area++
	}
	p.areas = [2]int{1 + p.log, 1 + p.log + p.area}
	return p
}

// empty returns a new disk.
func empty(t *testing.T, sectors int) *disk.Disk {
	t.Helper()
	d, e := disk.New(sectors)
	if e != api.OK {
		t.Fatalf("no disk of %d sectors", sectors)
	}
	return d
}

// write writes whole sectors, and flushes them.
func write(t *testing.T, d *disk.Disk, at int, s string) {
	t.Helper()
	if d.Write(at, whole(s)) != api.OK || d.Flush() != api.OK {
		t.Fatalf("%d bytes were not written at %d", len(s), at)
	}
}

// logOf returns the log that is there.
func logOf(t *testing.T, d *disk.Disk) *wal.Wal {
	t.Helper()
	w, e := wal.Open(d, 1, partsOf(d.Sectors()).log)
	if e != api.OK {
		t.Fatalf("no log: %v", e)
	}
	return w
}

// made returns a disk with a header, an area's bytes, and a log.
func made(t *testing.T, sectors int, area byte, seq uint64, s string, gen uint64, groups ...[]string) *disk.Disk {
	t.Helper()
	d := empty(t, sectors)
	write(t, d, 0, headed(area, seq))
	write(t, d, partsOf(sectors).areas[area%2], s)
	write(t, d, 1, logged(gen))
	w := logOf(t, d)
	for _, l := range groups {
		if e := w.Append(l...); e != api.OK {
			t.Fatalf("no group: %v", e)
		}
	}
	return d
}

// all returns all sectors of a disk.
func all(t *testing.T, d *disk.Disk) string {
	t.Helper()
	s, e := d.Read(0, d.Sectors())
	if e != api.OK {
		t.Fatalf("Read: %v", e)
	}
	return s
}

// opened returns the files that are there.
func opened(t *testing.T, d *disk.Disk) *files.Files {
	t.Helper()
	f, e := files.Open(d)
	if f == nil || e != api.OK {
		t.Fatalf("Open: %v", e)
	}
	return f
}

// refused fails unless there are no files, with that error.
func refused(t *testing.T, d *disk.Disk, want api.Errno) {
	t.Helper()
	if f, e := files.Open(d); f != nil || e != want {
		t.Fatalf("Open: files %v, %v, not %v", f != nil, e, want)
	}
}

// wants fails unless got is want.
func wants(t *testing.T, what string, got, want api.Errno) {
	t.Helper()
	if got != want {
		t.Fatalf("%s: %v, not %v", what, got, want)
	}
}

// has reports whether the files are these.
func (s state) has(f *files.Files) bool {
	if !slices.Equal(f.Names(), slices.Sorted(maps.Keys(s))) || f.Used() != len(s.code()) {
		return false
	}
	for name, data := range s {
		if got, is := f.Get(name); got != data || !is || f.Size(name) != len(data) {
			return false
		}
	}
	return true
}

// is fails unless the files are these, with that fault.
func is(t *testing.T, f *files.Files, want state, fault api.Errno) {
	t.Helper()
	if f.Fault() != fault {
		t.Fatalf("fault %v, not %v", f.Fault(), fault)
	}
	if !want.has(f) {
		t.Fatalf("files %.200q (%d bytes), not %.200q (%d)", f.Names(), f.Used(), slices.Sorted(maps.Keys(want)), len(want.code()))
	}
}

// P6.1, R2: a disk that is not there, or too small, comes first; then one that has failed; then what it has.
func TestOpenWrong(t *testing.T) {
	refused(t, nil, api.ErrNil)
	for n := 1; n < 20; n++ {
		d := empty(t, n)
		bad := d.Copy()
		write(t, bad, 0, xs(size))
		down := bad.Copy()
		down.Fuse(0)
		down.Write(0, zeros(1))
		if n < api.MinFiles {
			refused(t, d, api.ErrArg)
			refused(t, bad, api.ErrArg)
			refused(t, down, api.ErrArg)
			continue
		}
		is(t, opened(t, d), nil, api.OK)
		refused(t, bad, api.ErrBad)
		refused(t, down, api.ErrDown)
	}
}

// P6.1, P6.3: a new disk has no files; to open it writes nothing.
func TestOpenNew(t *testing.T) {
	for _, n := range []int{8, 9, 24, 40, api.MaxSectors} {
		d := empty(t, n)
		d.Fuse(0)
		f := opened(t, d)
		is(t, f, nil, api.OK)
		if f.Used() != 4 || f.Size("a") != 0 || f.Disk() != d {
			t.Errorf("%d sectors: used %d, size %d", n, f.Used(), f.Size("a"))
		}
		if s, is := f.Get("a"); s != "" || is {
			t.Errorf("Get: %q, %v", s, is)
		}
		if d.Loose() != 0 || d.Down() {
			t.Error("something was written")
		}
	}
}

// P6.1, P6.3: where header, log and areas are, and what they leave room for, on a disk of each size.
func TestLayout(t *testing.T) {
	sizes := []int{1000, 4095, 4096, api.MaxSectors - 1, api.MaxSectors}
	for n := api.MinFiles; n < 150; n++ {
		sizes = append(sizes, n)
	}
	for _, n := range sizes {
		p := partsOf(n)
		for area := range byte(2) {
			s := state{"a": xs(3), "b": ""}
			l := texts(put("b", "new"), gone("a"))
			d := made(t, n, area, 5, sized(s.code()), 5, l)
			f := opened(t, d)
			is(t, f, state{"b": "new"}, api.OK)
			if f.Room() != p.area*size-4 {
				t.Fatalf("%d sectors: room %d, not %d", n, f.Room(), p.area*size-4)
			}
			// The area may be full to its last byte.
			s = state{"a": xs(min(f.Room()-13, api.MaxText))}
			is(t, opened(t, made(t, n, area, 5, sized(s.code()), 5, l)), state{"b": "new"}, api.OK)
			is(t, opened(t, made(t, n, area, 5, sized(s.code()), 5)), s, api.OK)
		}
	}
	for n, want := range map[int]parts{
		8:  {2, 2, [2]int{3, 5}},
		9:  {2, 3, [2]int{3, 6}},
		10: {2, 3, [2]int{3, 6}},
		23: {2, 10, [2]int{3, 13}},
		24: {3, 10, [2]int{4, 14}},
		40: {5, 17, [2]int{6, 23}},
	} {
		if p := partsOf(n); p != want {
			t.Errorf("%d sectors: %v, not %v", n, p, want)
		}
	}
}

// P6.1: each bit of a header's sector counts, those of the bytes 0 too.
func TestOpenHeaderBits(t *testing.T) {
	for area := range byte(2) {
		s := state{"a": "b"}
		d := made(t, 16, area, 3, sized(s.code()), 3)
		write(t, d, partsOf(16).areas[1-area], sized(s.code()))
		is(t, opened(t, d), s, api.OK)
		for bit := range size * 8 {
			b := []byte(headed(area, 3))
			b[bit/8] ^= 1 << (bit % 8)
			write(t, d, 0, string(b))
			refused(t, d, api.ErrBad)
		}
	}
}

// P6.1: one byte of a header's sector that is not 0 is no new disk.
func TestOpenAlmostNew(t *testing.T) {
	d := empty(t, 8)
	for i := range size {
		for _, v := range []string{"\x01", "\x80", "F"} {
			write(t, d, 0, zeros(1)[:i]+v+zeros(1)[i+1:])
			refused(t, d, api.ErrBad)
		}
	}
}

// P6.1: sectors that are sealed, but no headers.
func TestOpenOtherSeals(t *testing.T) {
	numbers := strings.Repeat("\x00", 9)
	d := made(t, 16, 0, 0, sized(state{}.code()), 0)
	is(t, opened(t, d), nil, api.OK)
	refuse := func(s string) {
		t.Helper()
		write(t, d, 0, s)
		refused(t, d, api.ErrBad)
	}
	for _, s := range []string{
		"FIL0" + numbers,
		"FIL2" + numbers,
		"fil1" + numbers,
		"1LIF" + numbers,
		"LOG1" + numbers,
		"FIL1" + numbers[:8],
		"FIL1" + numbers + "\x00",
		"FIL1" + numbers + "\x00\x00\x00",
		"FIL1",
		"FIL1" + xs(9),
		numbers + "FIL1",
	} {
		refuse(sealed(s))
		refuse(sealed(s + strings.Repeat("\x00", size-4-len(s))))
	}
	// Its checksum is that of what stands ahead of it, and not the one of all bytes up to the end.
	refuse(sealed(headed(0, 0)[:size-4]))
	refuse(xs(size))
	for area := 2; area < 256; area++ {
		refuse(headed(byte(area), 0))
	}
	write(t, d, 0, headed(0, 0))
	is(t, opened(t, d), nil, api.OK)
}

// P6.1: a header whose sector is all 0 names no area, whatever is in the areas; the log counts from any generation on.
func TestOpenNoneNamed(t *testing.T) {
	for _, gen := range []uint64{0, 1, 7, math.MaxUint64} {
		d := empty(t, 24)
		p := partsOf(24)
		write(t, d, p.areas[0], strings.Repeat("\xff", 2*p.area*size))
		is(t, opened(t, d), nil, api.OK)
		write(t, d, 1, logged(gen))
		is(t, opened(t, d), nil, api.OK)
		wants(t, "Append", logOf(t, d).Append(texts(put("a", "b"))...), api.OK)
		d.Fuse(0)
		is(t, opened(t, d), state{"a": "b"}, api.OK)
		if d.Loose() != 0 || d.Down() {
			t.Error("something was written")
		}
	}
}

// P6.1: the log's groups count if its generation is at least the sequence number; if it is one less it is reset; else there are no files.
func TestOpenSequence(t *testing.T) {
	old, changes := state{"a": "old", "b": "b"}, []api.Change{put("a", "new"), gone("b"), put("c", "")}
	numbers := []uint64{0, 1, 2, 3, 9, 1<<32 - 1, 1 << 32, 1<<63 - 1, 1 << 63, math.MaxUint64 - 2, math.MaxUint64 - 1, math.MaxUint64}
	for _, seq := range numbers {
		for _, gen := range numbers {
			d := made(t, 32, 1, seq, sized(old.code()), gen, texts(changes[:1]...), texts(changes[1:]...))
			before := all(t, d)
			switch {
			case gen >= seq:
				d.Fuse(0)
				is(t, opened(t, d), old.after(changes...), api.OK)
			case gen+1 == seq:
				is(t, opened(t, d), old, api.OK)
				// The reset is flushed, and changes the log's header only.
				before = before[:size] + logged(seq) + before[2*size:]
				d.Crash("")
				is(t, opened(t, d), old, api.OK)
			default:
				refused(t, d, api.ErrBad)
			}
			if d.Loose() != 0 || all(t, d) != before {
				t.Fatalf("sequence %d, generation %d: other sectors were written", seq, gen)
			}
		}
	}
}

// P6.1: a reset that the disk does not do is its error, and may be done later.
func TestOpenResetFails(t *testing.T) {
	old := state{"a": "old"}
	d := made(t, 32, 0, 4, sized(old.code()), 3, texts(put("a", "new")))
	d.Fuse(0)
	refused(t, d, api.ErrDown)
	refused(t, d, api.ErrDown)
	for _, keep := range keeps(d.Loose()) {
		c := d.Copy()
		c.Crash(keep)
		is(t, opened(t, c), old, api.OK)
	}
}

// P6.1: an area has a length, an encoding, and whatever is behind that.
func TestOpenArea(t *testing.T) {
	long := strings.Repeat("n", api.MaxFileName)
	for i, s := range []state{
		{},
		{"a": ""},
		{"a": "", "b": "x"},
		{"\x00": "\x00"},
		{long: xs(100)},
		{"a": xs(200), "aa": xs(40), "b": "", "\xff": "z"},
		{long[:31] + "m": "1", long: "2"},
	} {
		for area := range byte(2) {
			for _, behind := range []string{"", "\xff", four(9), strings.Repeat("~", 3*size)} {
				d := made(t, 64, area, 1, sized(s.code())+behind, 1)
				is(t, opened(t, d), s, api.OK)
				if d.Loose() != 0 {
					t.Errorf("case %d: something was written", i)
				}
			}
		}
	}
}

// P6.1: areas that contain no files.
func TestOpenAreaWrong(t *testing.T) {
	file := func(name, data string) string { return sized(name) + sized(data) }
	room := partsOf(40).area*size - 4
	for i, s := range []string{
		four(0),                         // no count
		four(3) + four(0),               // half a count
		four(5) + four(0),               // a byte more
		sized(four(0) + "\x00"),         // likewise
		sized(four(1)),                  // a file less
		sized(four(2) + file("a", "b")), // likewise
		sized(four(0) + file("a", "b")), // a file more
		sized(four(1) + file("a", "b") + file("b", "")),   // likewise
		sized(four(2) + file("b", "") + file("a", "")),    // not in order
		sized(four(2) + file("a", "") + file("a", "")),    // a name twice
		sized(four(2) + file("aa", "") + file("a", "")),   // not in order
		sized(four(2) + file("\xff", "") + file("a", "")), // likewise
		sized(four(1) + file("", "")),                     // no name
		sized(four(2) + file("", "") + file("a", "")),     // likewise
		sized(four(1) + file(strings.Repeat("n", 33), "")),
		sized(four(1) + sized("a")),           // no contents
		sized(four(1) + sized("a") + "\x00"),  // half a length
		sized(four(1) + sized("a") + four(1)), // contents cut off
		sized(four(1) + four(2) + "a"),        // a name cut off
		sized(four(1) + four(math.MaxUint32)), // a name that can't be there
		sized(four(math.MaxUint32)),           // files that can't be there
		sized(four(math.MaxUint32) + file("a", "b")),
		sized(four(1) + sized("a") + four(math.MaxUint32)),
		sized(four(1) + sized("a") + four(1<<31) + "b"),
		four(room+1) + state{"a": xs(room - 13)}.code() + "x", // longer than an area
		four(room+1) + state{"a": xs(room - 12)}.code(),
		four(math.MaxUint32) + four(0),
		four(1<<31) + four(0),
		strings.Repeat("\xff", room+4),
		"",
	} {
		for area := range byte(2) {
			d := made(t, 40, area, 1, "", 1)
			d.Write(partsOf(40).areas[area], whole(s)[:min(len(whole(s)), room+4)])
			if f, e := files.Open(d); f != nil || e != api.ErrBad {
				t.Errorf("case %d: files %v, %v", i, f != nil, e)
			}
			// It counts only if the header names it.
			write(t, d, partsOf(40).areas[1-area], sized(four(0)))
			write(t, d, 0, headed(1-area, 1))
			is(t, opened(t, d), nil, api.OK)
		}
	}
}

// P6.1: contents of an area that are as long as may be, and one longer.
func TestOpenAreaLong(t *testing.T) {
	s := state{"a": xs(api.MaxText), "b": "c"}
	is(t, opened(t, made(t, 4096, 1, 1, sized(s.code()), 1)), s, api.OK)
	s["a"] += "x"
	refused(t, made(t, 4096, 1, 1, sized(s.code()), 1), api.ErrBad)
}

// P6.1: the log is one, whether its groups count or not.
func TestOpenLogWrong(t *testing.T) {
	for _, seq := range []uint64{2, 3} {
		d := made(t, 24, 0, seq, sized(four(0)), 2, texts(put("a", "b")))
		opened(t, d.Copy())
		for i, s := range []string{xs(size), logged(2)[:9] + "~" + logged(2)[10:], headed(0, 2)} {
			c := d.Copy()
			write(t, c, 1, s)
			if f, e := files.Open(c); f != nil || e != api.ErrBad {
				t.Errorf("case %d: files %v, %v", i, f != nil, e)
			}
		}
		// Its group is none.
		write(t, d, 2, zeros(1))
		refused(t, d, api.ErrBad)
	}
}

// P6.1: the groups are valid changes, also those that count for nothing any more.
func TestOpenGroups(t *testing.T) {
	long := strings.Repeat("n", api.MaxFileName)
	good := texts(put("g", "h"))
	for _, seq := range []uint64{6, 7} {
		for i, x := range []struct {
			l    []string
			want api.Errno
		}{
			{nil, api.OK},
			{texts(put("a", "")), api.OK},
			{texts(gone("a"), put("a", "b"), gone("g")), api.OK},
			{texts(put(long, xs(60)), put("\x01", "\x00")), api.OK},
			{[]string{"\x00a"}, api.ErrBad},
			{[]string{"\x00a", "b", "\x01c"}, api.ErrBad},
			{[]string{"", ""}, api.ErrBad},
			{[]string{"", "a"}, api.ErrBad},
			{[]string{"\x00", ""}, api.ErrBad},
			{[]string{"\x01", ""}, api.ErrBad},
			{[]string{"\x00a", "b", "\x00", ""}, api.ErrBad},
			{[]string{"\x02a", "b"}, api.ErrBad},
			{[]string{"0a", "b"}, api.ErrBad},
			{[]string{"\xffa", ""}, api.ErrBad},
			{[]string{"a", "b"}, api.ErrBad},
			{[]string{"\x01a", "b"}, api.ErrBad},
			{[]string{"\x01a", "\x00"}, api.ErrBad},
			{[]string{"\x00" + long + "n", ""}, api.ErrBad},
			{[]string{"\x01" + long + "n", ""}, api.ErrBad},
		} {
			for _, groups := range [][][]string{{x.l}, {good, x.l}, {x.l, good}} {
				d := made(t, 64, 0, seq, sized(state{"o": "ld"}.code()), 6, groups...)
				before := all(t, d)
				f, e := files.Open(d)
				if e != x.want || (f == nil) != (e != api.OK) {
					t.Errorf("case %d: files %v, %v", i, f != nil, e)
				}
				if e != api.OK && (all(t, d) != before || d.Loose() != 0) {
					t.Errorf("case %d: something was written", i)
				}
			}
		}
	}
}

// P6.1: of groups the later ones count, change by change.
func TestOpenOrder(t *testing.T) {
	d := made(t, 64, 1, 0, sized(state{"a": "0", "b": "0", "c": "0"}.code()), 0,
		texts(put("a", "1"), gone("b"), put("d", "1"), put("d", "2")),
		texts(),
		texts(gone("a"), put("a", "3"), put("b", "3"), gone("b"), gone("none")))
	is(t, opened(t, d), state{"a": "3", "c": "0", "d": "2"}, api.OK)
}

// P6.1: groups that need more than an area has are files all the same; what is left of them may be stored.
func TestOpenMoreThanRoom(t *testing.T) {
	s := state{"a": xs(124 - 13)}
	d := made(t, 8, 0, 1, sized(s.code()), 1, texts(put("b", "c")))
	f := opened(t, d)
	if f.Room() != 124 || f.Used() != 134 {
		t.Fatalf("room %d, used %d", f.Room(), f.Used())
	}
	is(t, f, s.after(put("b", "c")), api.OK)
	wants(t, "Commit", f.Commit(), api.ErrFull)
	wants(t, "Commit", f.Commit(gone("b")), api.OK)
	is(t, f, s, api.OK)
	is(t, opened(t, d), s, api.OK)
}

// P6.3, R3: what is not there.
func TestNil(t *testing.T) {
	var f *files.Files
	if s, is := f.Get("a"); s != "" || is {
		t.Error("a file of files that are not there")
	}
	if f.Names() != nil || f.Size("a") != 0 || f.Used() != 0 || f.Room() != 0 || f.Fault() != api.OK || f.Disk() != nil {
		t.Error("something of files that are not there")
	}
	wants(t, "Commit", f.Commit(), api.ErrNil)
	wants(t, "Commit", f.Commit(put("a", "b")), api.ErrNil)
	wants(t, "Commit of what may not be", f.Commit(put("", "")), api.ErrNil)
}

// The chapter's example.
func TestExample(t *testing.T) {
	d := empty(t, 40)
	f := opened(t, d)
	if p := partsOf(40); p.log != 5 || p.area != 17 || f.Room() != 1084 {
		t.Errorf("%v, room %d", p, f.Room())
	}
	wants(t, "Commit", f.Commit(put("a", "xyz")), api.OK)
	if s, is := f.Get("a"); f.Used() != 16 || s != "xyz" || !is {
		t.Errorf("used %d, %q, %v", f.Used(), s, is)
	}
	wants(t, "Commit", f.Commit(gone("a")), api.OK)
	is(t, f, nil, api.OK)
	if f.Used() != 4 {
		t.Errorf("used %d", f.Used())
	}
}
