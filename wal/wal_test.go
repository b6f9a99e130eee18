package wal_test

import (
	"encoding/binary"
	"hash/crc32"
	"math"
	"slices"
	"strings"
	"testing"

	"maslin/api"
	"maslin/disk"
	"maslin/wal"
)

const size = api.SectorSize

// zeros returns n sectors of bytes 0.
func zeros(n int) string {
	return strings.Repeat("\x00", n*size)
}

// whole returns s with bytes 0 behind it up to the end of a sector.
func whole(s string) string {
	for len(s)%size != 0 {
		s += "\x00"
	}
	return s
}

// sealed returns s with its checksum behind it.
func sealed(s string) string {
	b := binary.LittleEndian.AppendUint32([]byte(s), crc32.ChecksumIEEE([]byte(s)))
	return string(b)
}

// headed returns a header's sector, by the definition.
func headed(gen uint64, used uint32) string {
	b := binary.LittleEndian.AppendUint64([]byte("LOG1"), gen)
	b = binary.LittleEndian.AppendUint32(b, used)
	return whole(sealed(string(b)))
}

// row returns a list's encoding, by the definition.
func row(l []string) string {
	b := binary.LittleEndian.AppendUint16(nil, uint16(len(l)))
	for _, s := range l {
		b = binary.LittleEndian.AppendUint16(b, uint16(len(s)))
		b = append(b, s...)
	}
	return string(b)
}

// sized returns s with its length ahead of it, four bytes, in whole sectors.
func sized(n int, s string) string {
	b := binary.LittleEndian.AppendUint32(nil, uint32(n))
	return whole(string(b) + s)
}

// grouped returns a group's sectors, by the definition.
func grouped(l ...string) string {
	r := row(l)
	return sized(len(r), r)
}

// xs returns n bytes.
func xs(n int) string {
	return strings.Repeat("x", n)
}

// drive returns a new disk with these sectors, flushed.
func drive(t *testing.T, sectors int, at int, s string) *disk.Disk {
	t.Helper()
	d, e := disk.New(sectors)
	if e != api.OK || d.Write(at, s) != api.OK || d.Flush() != api.OK {
		t.Fatalf("no disk of %d sectors", sectors)
	}
	return d
}

// contents returns all sectors of a disk.
func contents(t *testing.T, d *disk.Disk) string {
	t.Helper()
	s, e := d.Read(0, d.Sectors())
	if e != api.OK {
		t.Fatalf("Read: %v", e)
	}
	return s
}

// opened returns the log that is there.
func opened(t *testing.T, d *disk.Disk, from, n int) *wal.Wal {
	t.Helper()
	w, e := wal.Open(d, from, n)
	if w == nil || e != api.OK {
		t.Fatalf("Open(%d, %d): %v", from, n, e)
	}
	return w
}

// refused fails unless there is no log, with that error.
func refused(t *testing.T, d *disk.Disk, from, n int, want api.Errno) {
	t.Helper()
	if w, e := wal.Open(d, from, n); w != nil || e != want {
		t.Fatalf("Open(%d, %d): %v, %v, not %v", from, n, w, e, want)
	}
}

// wants fails unless got is want.
func wants(t *testing.T, what string, got, want api.Errno) {
	t.Helper()
	if got != want {
		t.Fatalf("%s: %v, not %v", what, got, want)
	}
}

// same reports whether two logs' groups are equal.
func same(a, b [][]string) bool {
	return slices.EqualFunc(a, b, slices.Equal[[]string])
}

// is fails unless the log has these.
func is(t *testing.T, w *wal.Wal, gen uint64, room int, fault api.Errno, groups ...[]string) {
	t.Helper()
	if w.Gen() != gen || w.Room() != room || w.Fault() != fault {
		t.Fatalf("generation %d, room %d, fault %v; not %d, %d, %v", w.Gen(), w.Room(), w.Fault(), gen, room, fault)
	}
	if !same(w.Groups(), groups) {
		t.Fatalf("%d groups, not %d, or other ones: %.200q", len(w.Groups()), len(groups), w.Groups())
	}
}

// P5.1, R2: a disk that is not there comes first.
func TestOpenNil(t *testing.T) {
	for _, from := range []int{math.MinInt, -1, 0, 1, math.MaxInt} {
		for _, n := range []int{math.MinInt, -1, 0, 1, 2, math.MaxInt} {
			refused(t, nil, from, n, api.ErrNil)
		}
	}
}

// P5.1: every place and number of sectors; a disk that has failed is told only if they may be asked for.
func TestOpenRange(t *testing.T) {
	d := drive(t, 6, 0, zeros(6))
	down := d.Copy()
	down.Fuse(0)
	down.Write(0, zeros(1))
	numbers := []int{math.MinInt, math.MinInt + 1, -1 << 31, math.MaxInt - 6, math.MaxInt - 1, math.MaxInt, 1 << 31, 1 << 62}
	for i := -9; i < 10; i++ {
		numbers = append(numbers, i)
	}
	for _, from := range numbers {
		for _, n := range numbers {
			if n < 2 || n > 6 || from < 0 || from > 6-n {
				refused(t, d, from, n, api.ErrArg)
				refused(t, down, from, n, api.ErrArg)
				continue
			}
			is(t, opened(t, d, from, n), 0, n-1, api.OK)
			refused(t, down, from, n, api.ErrDown)
		}
	}
	// The smallest disk, and the biggest one, with one log all over.
	refused(t, drive(t, 1, 0, zeros(1)), 0, 1, api.ErrArg)
	refused(t, drive(t, 1, 0, zeros(1)), 0, 2, api.ErrArg)
	is(t, opened(t, drive(t, 2, 0, zeros(2)), 0, 2), 0, 1, api.OK)
	is(t, opened(t, drive(t, api.MaxSectors, 0, ""), 0, api.MaxSectors), 0, api.MaxSectors-1, api.OK)
}

// P5.1: a new log is one whose header's sector is all 0, whatever is behind it; opening it writes nothing.
func TestOpenNew(t *testing.T) {
	behind := strings.Repeat("\xff", 3*size)
	d := drive(t, 4, 0, zeros(1)+behind)
	d.Fuse(0)
	is(t, opened(t, d, 0, 4), 0, 3, api.OK)
	if d.Loose() != 0 || d.Down() || contents(t, d) != zeros(1)+behind {
		t.Error("something was written")
	}
	d.Fuse(-1)
	w := opened(t, d, 0, 4)
	wants(t, "Append", w.Append("a"), api.OK)
	is(t, opened(t, d, 0, 4), 0, 2, api.OK, []string{"a"})
}

// P5.1: one byte of a header's sector that is not 0 is no new log.
func TestOpenAlmostNew(t *testing.T) {
	for i := range size {
		for _, v := range []string{"\x01", "\x80", "L"} {
			s := zeros(1)
			refused(t, drive(t, 3, 1, s[:i]+v+s[i+1:]), 1, 2, api.ErrBad)
		}
	}
}

// P5.1: headers of every generation and number of sectors that may be.
func TestOpenHeader(t *testing.T) {
	one := grouped(xs(3))
	for _, gen := range []uint64{0, 1, 2, 255, 256, 1 << 32, 1<<63 + 5, math.MaxUint64} {
		for used := range 6 {
			d := drive(t, 9, 2, headed(gen, uint32(used))+strings.Repeat(one, 6))
			var want [][]string
			for range used {
				want = append(want, []string{xs(3)})
			}
			// Of n sectors one is the header's: the groups fit into the others, or there is no such log.
			is(t, opened(t, d, 2, 7), gen, 6-used, api.OK, want...)
			for n := 2; n < 7; n++ {
				if used > n-1 {
					refused(t, d, 2, n, api.ErrBad)
				} else {
					is(t, opened(t, d, 2, n), gen, n-1-used, api.OK, want...)
				}
			}
		}
	}
	for _, used := range []uint32{3, 4, 255, 1 << 16, 1<<31 - 1, 1 << 31, math.MaxUint32} {
		refused(t, drive(t, 9, 0, headed(1, used)+strings.Repeat(one, 8)), 0, 3, api.ErrBad)
	}
}

// P5.1: each bit of a header's sector counts, those of the bytes 0 too.
func TestOpenHeaderBits(t *testing.T) {
	for _, used := range []int{0, 2} {
		good := headed(7, uint32(used)) + grouped("a") + grouped("b")
		d := drive(t, 3, 0, good)
		is(t, opened(t, d, 0, 3), 7, 2-used, api.OK, [][]string{{"a"}, {"b"}}[:used]...)
		for bit := range size * 8 {
			b := []byte(good)
			b[bit/8] ^= 1 << (bit % 8)
			d.Write(0, string(b))
			refused(t, d, 0, 3, api.ErrBad)
		}
	}
}

// P5.1: sectors that are sealed, but no headers.
func TestOpenOtherSeals(t *testing.T) {
	numbers := strings.Repeat("\x00", 12)
	for _, s := range []string{
		"LOG0" + numbers,
		"LOG2" + numbers,
		"log1" + numbers,
		"1GOL" + numbers,
		"FIL1" + numbers,
		"LOG1" + numbers[:11],
		"LOG1" + numbers + "\x00",
		"LOG1",
		"LOG1" + xs(12),
		numbers + "LOG1",
	} {
		refused(t, drive(t, 3, 0, whole(sealed(s)+"\x00")), 0, 3, api.ErrBad)
		refused(t, drive(t, 3, 0, whole(sealed(s+strings.Repeat("\x00", size-4-len(s))))), 0, 3, api.ErrBad)
	}
	// Its checksum is that of what stands ahead of it, and not the one of all bytes up to the end.
	refused(t, drive(t, 3, 0, sealed(headed(0, 0)[:size-4])), 0, 3, api.ErrBad)
}

// P5.1: groups must occupy exactly the header's sectors, and be groups.
func TestOpenGroups(t *testing.T) {
	two := grouped(xs(57))
	for _, x := range []struct {
		used uint32
		s    string
		want [][]string
	}{
		{0, "", nil},
		{1, grouped(), [][]string{nil}},
		{1, grouped(""), [][]string{{""}}},
		{1, grouped(xs(56)), [][]string{{xs(56)}}},
		{2, two, [][]string{{xs(57)}}},
		{3, grouped("a", "b") + two, [][]string{{"a", "b"}, {xs(57)}}},
		{3, two + grouped("a", "b"), [][]string{{xs(57)}, {"a", "b"}}},
		{3, grouped("a") + grouped("\x00") + grouped("", "c"), [][]string{{"a"}, {"\x00"}, {"", "c"}}},
		// What is behind the groups counts for nothing.
		{1, grouped("a") + strings.Repeat("\xff", 3*size), [][]string{{"a"}}},
	} {
		d := drive(t, 6, 0, headed(3, x.used)+x.s)
		is(t, opened(t, d, 0, 6), 3, 5-int(x.used), api.OK, x.want...)
	}
	for i, x := range []struct {
		used uint32
		s    string
	}{
		{1, zeros(1)},                              // no encoding
		{2, grouped("a") + zeros(1)},               // a sector more
		{1, two},                                   // a sector less
		{2, grouped("a") + two},                    // likewise
		{2, sized(63, row([]string{xs(57)}))},      // its last byte is cut off
		{1, sized(60, row([]string{xs(57)})[:60])}, // likewise
		{1, sized(6, row([]string{"a"})+"\x00")},   // a byte more
		{1, sized(4, row([]string{"a"}))},          // a byte less
		{1, sized(5, "\x02\x00\x01\x00a")},         // a string less
		{1, sized(5, "\x00\x00\x01\x00a")},         // a string more
		{1, sized(1, "\x00")},                      // half a count
		{1, sized(61, row([]string{xs(57)})[:60])},
		{1, sized(64, xs(60))},
		{1, sized(math.MaxInt32, row([]string{"a"}))},
		{1, sized(math.MaxInt32+1, row([]string{"a"}))},
		{1, sized(math.MaxUint32-3, row([]string{"a"}))},
		{1, sized(math.MaxUint32, row([]string{"a"}))},
		{3, two + sized(5, "\x00\x00\x01\x00a")},
	} {
		w, e := wal.Open(drive(t, 6, 0, headed(3, x.used)+x.s), 0, 6)
		if w != nil || e != api.ErrBad {
			t.Errorf("case %d: %v, %v", i, w, e)
		}
	}
}

// P5.1: behind a group's encoding there are bytes 0 up to the end of its sector.
func TestOpenPadding(t *testing.T) {
	for _, n := range []int{0, 1, 20, 54, 55, 56, 57, 100} {
		good := grouped(xs(n))
		end := 4 + 2 + 2 + n
		for i := end; i < len(good); i++ {
			bad := good[:i] + "\x01" + good[i+1:]
			refused(t, drive(t, 4, 0, headed(0, uint32(len(good)/size))+bad), 0, 4, api.ErrBad)
		}
	}
	// A whole sector of them is too many.
	refused(t, drive(t, 4, 0, headed(0, 2)+grouped(xs(20))+zeros(1)), 0, 4, api.ErrBad)
}

// P5.1, R3: what is not there.
func TestNil(t *testing.T) {
	var w *wal.Wal
	if w.Groups() != nil || w.Gen() != 0 || w.Room() != 0 || w.Fault() != api.OK {
		t.Error("something of a log that is not there")
	}
	wants(t, "Append", w.Append(), api.ErrNil)
	wants(t, "Append", w.Append("a"), api.ErrNil)
	wants(t, "Append of what is too long", w.Append(xs(api.MaxText+1)), api.ErrNil)
	wants(t, "Reset", w.Reset(), api.ErrNil)
}

// P5.2: how many sectors a group has, at the edges of sectors.
func TestNeed(t *testing.T) {
	many := make([]string, api.MaxText)
	for i, x := range []struct {
		l    []string
		want int
	}{
		{nil, 1},
		{[]string{""}, 1},
		{[]string{"a", "b"}, 1},
		{[]string{xs(55)}, 1},
		{[]string{xs(56)}, 1},
		{[]string{xs(57)}, 2},
		{[]string{xs(120)}, 2},
		{[]string{xs(121)}, 3},
		{[]string{xs(200)}, 4},
		{[]string{xs(54), ""}, 1},
		{[]string{xs(54), "a"}, 2},
		{[]string{xs(27), xs(27)}, 1},
		{[]string{xs(27), xs(28)}, 2},
		{many[:29], 1},
		{many[:30], 2},
		{many, (4 + 2 + 2*api.MaxText + 63) / 64},
		{[]string{xs(api.MaxText)}, (4 + 2 + 2 + api.MaxText + 63) / 64},
	} {
		n, e := wal.Need(x.l...)
		if n != x.want || e != api.OK || n*size != len(grouped(x.l...)) {
			t.Errorf("case %d: %d sectors, %v, not %d", i, n, e, x.want)
		}
	}
}

// tooLong returns lists that have no encoding.
func tooLong() [][]string {
	return [][]string{
		{xs(api.MaxText + 1)},
		{"a", xs(api.MaxText + 1)},
		{xs(api.MaxText + 1), ""},
		make([]string, api.MaxText+1),
		make([]string, api.MaxText+9),
	}
}

// P5.2, R2: what is too long is refused, changes nothing, and is told ahead of a log that is full.
func TestTooLong(t *testing.T) {
	d := drive(t, 3, 0, zeros(3))
	w := opened(t, d, 0, 3)
	w.Append("a")
	before := contents(t, d)
	for _, l := range tooLong() {
		if n, e := wal.Need(l...); n != 0 || e != api.ErrLong {
			t.Errorf("Need: %d, %v", n, e)
		}
		wants(t, "Append", w.Append(l...), api.ErrLong)
		is(t, w, 0, 1, api.OK, []string{"a"})
	}
	if contents(t, d) != before || d.Loose() != 0 {
		t.Error("something was written")
	}
	w.Append("b")
	wants(t, "Append to a full log", w.Append(tooLong()[0]...), api.ErrLong)
	wants(t, "Append to a full log", w.Append("c"), api.ErrFull)
}

// P5.2: each byte that is written is the one that the definition says, and all of it is flushed.
func TestBytes(t *testing.T) {
	around := strings.Repeat("~", 2*size)
	d := drive(t, 12, 0, around+zeros(8)+around)
	w := opened(t, d, 2, 8)
	log := ""
	check := func(gen uint64, used uint32) {
		t.Helper()
		want := around + headed(gen, used) + log + around
		if d.Loose() != 0 || contents(t, d) != want {
			t.Fatalf("%d unflushed, or other sectors: %q, not %q", d.Loose(), contents(t, d), want)
		}
		d.Crash("")
	}
	log = grouped("a", "") + zeros(6)
	wants(t, "Append", w.Append("a", ""), api.OK)
	check(0, 1)
	log = log[:size] + grouped(xs(57)) + zeros(4)
	wants(t, "Append", w.Append(xs(57)), api.OK)
	check(0, 3)
	// What the groups had remains: only the header counts.
	wants(t, "Reset", w.Reset(), api.OK)
	check(1, 0)
	log = grouped() + log[size:]
	wants(t, "Append", w.Append(), api.OK)
	check(1, 1)
	log = log[:size] + grouped(xs(56), "", xs(313))
	wants(t, "Append", w.Append(xs(56), "", xs(313)), api.OK)
	check(1, 7)
	wants(t, "Append", w.Append(), api.ErrFull)
	check(1, 7)
	wants(t, "Reset", w.Reset(), api.OK)
	wants(t, "Reset", w.Reset(), api.OK)
	check(3, 0)
}

// P5.2: as many groups as there is space for, of each number of sectors; ErrFull changes nothing.
func TestFull(t *testing.T) {
	for n := 2; n < 12; n++ {
		d := drive(t, n, 0, zeros(n))
		for k := 1; k < 13; k++ {
			w := opened(t, d, 0, n)
			gen, s := w.Gen(), xs(k*size-8)
			var want [][]string
			for range (n - 1) / k {
				wants(t, "Append", w.Append(s), api.OK)
				want = append(want, []string{s})
			}
			before, room := contents(t, d), (n-1)%k
			wants(t, "Append", w.Append(s), api.ErrFull)
			is(t, w, gen, room, api.OK, want...)
			if d.Loose() != 0 || contents(t, d) != before {
				t.Fatal("something was written")
			}
			// What is smaller may still fit.
			if room > 0 {
				wants(t, "Append", w.Append(xs(room*size-8)), api.OK)
				want = append(want, []string{xs(room*size - 8)})
			}
			wants(t, "Append", w.Append(), api.ErrFull)
			is(t, w, gen, 0, api.OK, want...)
			is(t, opened(t, d, 0, n), gen, 0, api.OK, want...)
			wants(t, "Reset", w.Reset(), api.OK)
			is(t, w, gen+1, n-1, api.OK)
		}
	}
}

// P5.1, P5.2: strings of any bytes, as many and as long as may be, on the biggest disk.
func TestBiggest(t *testing.T) {
	d := drive(t, api.MaxSectors, 0, "")
	w := opened(t, d, 0, api.MaxSectors)
	var b [api.MaxText]byte
	for i := range b {
		b[i] = byte(i * i >> 3)
	}
	big := slices.Repeat([]string{string(b[:])}, 12)
	many := make([]string, api.MaxText)
	wants(t, "Append", w.Append(big...), api.OK)
	wants(t, "Append", w.Append(many...), api.OK)
	used := (len(grouped(big...)) + len(grouped(many...))) / size
	is(t, w, 0, api.MaxSectors-1-used, api.OK, big, many)
	wants(t, "Append", w.Append(big...), api.ErrFull)
	// To the last sector.
	room := w.Room() * size
	var rest []string
	for room -= 6; room > 0; room -= 2 + len(rest[len(rest)-1]) {
		rest = append(rest, xs(min(api.MaxText, room-2)))
	}
	wants(t, "Append", w.Append(append(rest, "")...), api.ErrFull)
	wants(t, "Append", w.Append(rest...), api.OK)
	is(t, w, 0, 0, api.OK, big, many, rest)
	is(t, opened(t, d, 0, api.MaxSectors), 0, 0, api.OK, big, many, rest)
}

// R5: a log keeps nothing of the lists that it is handed, nor of those that it hands out.
func TestApart(t *testing.T) {
	d := drive(t, 8, 0, zeros(8))
	w := opened(t, d, 0, 8)
	l := []string{"a", "b", "c"}
	wants(t, "Append", w.Append(l[:2]...), api.OK)
	if !slices.Equal(l, []string{"a", "b", "c"}) {
		t.Error("the argument was changed")
	}
	l[0], l[1] = "y", "z"
	is(t, w, 0, 6, api.OK, []string{"a", "b"})
	for _, x := range []*wal.Wal{w, opened(t, d, 0, 8)} {
		g, h := x.Groups(), x.Groups()
		g[0][1] = "changed"
		_ = append(g[0], "more")
		g[0] = nil
		_ = append(g[:0], nil, nil)
		if !same(h, [][]string{{"a", "b"}}) {
			t.Error("two answers share a list")
		}
		is(t, x, 0, 6, api.OK, []string{"a", "b"})
	}
	old := w.Groups()
	w.Append("c")
	w.Reset()
	w.Append("d")
	if !same(old, [][]string{{"a", "b"}}) {
		t.Error("an answer was changed")
	}
}

// P5.2: a log that failed refuses everything with its fault, and is as it was, until it is opened again.
func TestFault(t *testing.T) {
	ops := []func(w *wal.Wal) api.Errno{
		func(w *wal.Wal) api.Errno { return w.Append("b") },
		func(w *wal.Wal) api.Errno { return w.Append(xs(100)) },
		func(w *wal.Wal) api.Errno { return w.Reset() },
	}
	for _, op := range ops {
		for fuse := range 3 {
			d := drive(t, 6, 0, headed(4, 1)+grouped("a"))
			w := opened(t, d, 0, 6)
			d.Fuse(fuse)
			if e := op(w); e == api.OK {
				is(t, opened(t, d, 0, 6), w.Gen(), w.Room(), api.OK, w.Groups()...)
				continue
			} else if e != api.ErrDown {
				t.Fatal(e)
			}
			failed := func() {
				t.Helper()
				is(t, w, 4, 4, api.ErrDown, []string{"a"})
				wants(t, "Append", w.Append("c"), api.ErrDown)
				wants(t, "Append", w.Append(), api.ErrDown)
				wants(t, "Append of what is too long", w.Append(xs(api.MaxText+1)), api.ErrDown)
				wants(t, "Append of what does not fit", w.Append(xs(1000)), api.ErrDown)
				wants(t, "Reset", w.Reset(), api.ErrDown)
				is(t, w, 4, 4, api.ErrDown, []string{"a"})
			}
			failed()
			refused(t, d, 0, 6, api.ErrDown)
			// The disk works again; the log does not.
			d.Crash("1")
			before := contents(t, d)
			failed()
			if d.Loose() != 0 || contents(t, d) != before {
				t.Fatal("a log that failed has written")
			}
			again := opened(t, d, 0, 6)
			is(t, again, 4, 4, api.OK, []string{"a"})
			wants(t, "Append", again.Append("c"), api.OK)
			is(t, opened(t, d, 0, 6), 4, 3, api.OK, []string{"a"}, []string{"c"})
			failed()
		}
	}
}

// P5.2, R2: a disk that has failed is found out only by what is written.
func TestDownOrder(t *testing.T) {
	d := drive(t, 4, 0, zeros(4))
	w := opened(t, d, 0, 4)
	d.Fuse(0)
	d.Write(0, zeros(1))
	wants(t, "Append of what is too long", w.Append(xs(api.MaxText+1)), api.ErrLong)
	wants(t, "Append of what does not fit", w.Append(xs(200)), api.ErrFull)
	is(t, w, 0, 3, api.OK)
	wants(t, "Append", w.Append("a"), api.ErrDown)
	is(t, w, 0, 3, api.ErrDown)
	wants(t, "Append of what is too long", w.Append(xs(api.MaxText+1)), api.ErrDown)
}

// Logs beside each other on a disk.
func TestBeside(t *testing.T) {
	d := drive(t, 10, 0, zeros(10))
	a, b, c := opened(t, d, 0, 3), opened(t, d, 3, 5), opened(t, d, 8, 2)
	for _, w := range []*wal.Wal{a, b, c, b, a} {
		wants(t, "Append", w.Append("1"), api.OK)
	}
	wants(t, "Append", c.Append(), api.ErrFull)
	wants(t, "Reset", b.Reset(), api.OK)
	wants(t, "Append", b.Append(xs(56+3*size)), api.OK)
	is(t, opened(t, d, 0, 3), 0, 0, api.OK, []string{"1"}, []string{"1"})
	is(t, opened(t, d, 3, 5), 1, 0, api.OK, []string{xs(56 + 3*size)})
	is(t, opened(t, d, 8, 2), 0, 0, api.OK, []string{"1"})
}

// The chapter's example.
func TestExample(t *testing.T) {
	d := drive(t, 4, 0, zeros(4))
	w := opened(t, d, 0, 4)
	if n, e := wal.Need("a", "b"); n != 1 || e != api.OK {
		t.Errorf("Need: %d, %v", n, e)
	}
	wants(t, "Append", w.Append("a", "b"), api.OK)
	is(t, w, 0, 2, api.OK, []string{"a", "b"})
	if n, e := wal.Need(xs(200)); n != 4 || e != api.OK {
		t.Errorf("Need: %d, %v", n, e)
	}
	wants(t, "Append", w.Append(xs(200)), api.ErrFull)
	wants(t, "Reset", w.Reset(), api.OK)
	is(t, w, 1, 3, api.OK)
}
