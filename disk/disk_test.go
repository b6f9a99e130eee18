package disk_test

import (
	"math"
	"strings"
	"testing"

	"maslin/api"
	"maslin/disk"
)

const size = api.SectorSize

// sectors returns a sector full of each byte of s.
func sectors(s string) string {
	var b strings.Builder
	for i := range len(s) {
		b.WriteString(strings.Repeat(s[i:i+1], size))
	}
	return b.String()
}

// made returns a new disk of n sectors.
func made(t *testing.T, n int) *disk.Disk {
	t.Helper()
	d, e := disk.New(n)
	if d == nil || e != api.OK || d.Sectors() != n {
		t.Fatalf("New(%d): %v", n, e)
	}
	return d
}

// wants fails unless got is want.
func wants(t *testing.T, what string, got, want api.Errno) {
	t.Helper()
	if got != want {
		t.Fatalf("%s: %v, not %v", what, got, want)
	}
}

// holds fails unless the disk has one sector full of each byte of want.
func holds(t *testing.T, d *disk.Disk, want string) {
	t.Helper()
	got, e := d.Read(0, d.Sectors())
	if got != sectors(want) || e != api.OK {
		t.Fatalf("the disk has %q, %v, not %q", got, e, want)
	}
}

// state fails unless the disk has that many unflushed writes, and has failed, or not.
func state(t *testing.T, d *disk.Disk, loose int, down bool) {
	t.Helper()
	if d.Loose() != loose || d.Down() != down {
		t.Fatalf("%d unflushed, down %v, not %d, %v", d.Loose(), d.Down(), loose, down)
	}
}

// P4.1: how many sectors a disk may have; R2: with the error there is none.
func TestNewRange(t *testing.T) {
	for _, n := range []int{math.MinInt, -1, 0, api.MaxSectors + 1, math.MaxInt} {
		if d, e := disk.New(n); d != nil || e != api.ErrArg {
			t.Errorf("New(%d): %v, %v", n, d, e)
		}
	}
	for _, n := range []int{1, 2, 3, 1000, api.MaxSectors - 1, api.MaxSectors} {
		d := made(t, n)
		state(t, d, 0, false)
		holds(t, d, strings.Repeat("\x00", n))
	}
}

// P4.1: Loose counts sectors, not calls, and each write anew, even one of the same sector with the same bytes.
func TestLoose(t *testing.T) {
	d := made(t, 4)
	for i, x := range []struct {
		at    int
		s     string
		loose int
	}{{0, "ab", 2}, {0, "ab", 4}, {1, "b", 5}, {2, "", 5}, {0, "\x00\x00\x00\x00", 9}} {
		wants(t, "Write", d.Write(x.at, sectors(x.s)), api.OK)
		if d.Loose() != x.loose {
			t.Fatalf("step %d: %d unflushed", i, d.Loose())
		}
	}
	d.Read(0, 4)
	state(t, d, 9, false)
	wants(t, "Flush", d.Flush(), api.OK)
	state(t, d, 0, false)
}

// P4.1: a copy is equal: contents, unflushed writes and their order, fuse, failure.
func TestCopyEqual(t *testing.T) {
	d := made(t, 3)
	d.Write(0, sectors("aaa"))
	d.Flush()
	d.Write(0, sectors("bc"))
	d.Write(0, sectors("d"))
	d.Fuse(1)
	c := d.Copy()
	if c == d || c.Sectors() != 3 {
		t.Fatal("no copy")
	}
	state(t, c, 3, false)
	holds(t, c, "dca")
	wants(t, "Write of two", c.Write(1, sectors("ef")), api.ErrDown)
	state(t, c, 4, true)
	again := c.Copy()
	state(t, again, 4, true)
	_, e := again.Read(0, 0)
	wants(t, "Read of a copy that has failed", e, api.ErrDown)
	again.Crash("1001")
	holds(t, again, "bea")
	c.Crash("0010")
	holds(t, c, "daa")
	// The first one knows nothing of all that, and still has its fuse.
	state(t, d, 3, false)
	holds(t, d, "dca")
	wants(t, "Write of one", d.Write(2, sectors("e")), api.OK)
	wants(t, "Write beyond the fuse", d.Write(2, sectors("e")), api.ErrDown)
}

// P4.1, R5: what is done to one of two equal disks does not reach the other one.
func TestCopyApart(t *testing.T) {
	for _, loose := range []int{0, 1, 2, 3, 5, 7, 8, 9} {
		d := made(t, 2)
		d.Write(0, sectors("xy"))
		d.Flush()
		for range loose {
			d.Write(0, sectors("z"))
		}
		c := d.Copy()
		d.Write(1, sectors("1"))
		c.Write(1, sectors("2"))
		d.Write(0, sectors("3"))
		c.Write(0, sectors("4"))
		holds(t, d, "31")
		holds(t, c, "42")
		f := c.Copy()
		f.Flush()
		c.Crash("")
		holds(t, f, "42")
		holds(t, c, "xy")
		state(t, d, loose+2, false)
		d.Fuse(0)
		d.Write(0, sectors("5"))
		state(t, d, loose+2, true)
		state(t, c, 0, false)
		d.Crash("1")
		holds(t, d, "31")
		holds(t, f, "42")
	}
}

// R3: what is not there.
func TestNil(t *testing.T) {
	var d *disk.Disk
	if d.Sectors() != 0 || d.Loose() != 0 || d.Down() || d.Copy() != nil {
		t.Error("something of a disk that is not there")
	}
	for _, x := range []struct{ at, n int }{{0, 0}, {0, 1}, {-1, -1}, {math.MaxInt, math.MaxInt}} {
		if s, e := d.Read(x.at, x.n); s != "" || e != api.ErrNil {
			t.Errorf("Read(%d, %d): %q, %v", x.at, x.n, s, e)
		}
	}
	for _, s := range []string{"", "a", sectors("a")} {
		for _, at := range []int{-1, 0, 1} {
			wants(t, "Write", d.Write(at, s), api.ErrNil)
		}
		wants(t, "Crash", d.Crash(s), api.ErrNil)
	}
	wants(t, "Flush", d.Flush(), api.ErrNil)
	for _, n := range []int{-1, 0, 1} {
		wants(t, "Fuse", d.Fuse(n), api.ErrNil)
	}
}

// P4.2: every range of sectors that is there, and none that is not.
func TestReadRange(t *testing.T) {
	const all = "abcdef"
	d := made(t, len(all))
	wants(t, "Write", d.Write(0, sectors(all)), api.OK)
	for _, flush := range []bool{false, true} {
		if flush {
			d.Flush()
		}
		for at := -3; at < 10; at++ {
			for n := -3; n < 10; n++ {
				got, e := d.Read(at, n)
				if at < 0 || n < 0 || at+n > len(all) {
					if got != "" || e != api.ErrArg {
						t.Fatalf("Read(%d, %d): %q, %v", at, n, got, e)
					}
				} else if got != sectors(all[at:at+n]) || e != api.OK {
					t.Fatalf("Read(%d, %d): %q, %v", at, n, got, e)
				}
			}
		}
	}
}

// P4.2, R1: numbers whose sum is too big for an int.
func TestHuge(t *testing.T) {
	d := made(t, 4)
	for _, at := range []int{math.MinInt, -1, 5, 1 << 31, 1 << 57, 1 << 58, 1 << 62, math.MaxInt - 1, math.MaxInt} {
		for _, n := range []int{math.MinInt, -1, 0, 1, 2, 4, 1 << 31, 1 << 58, 1 << 62, math.MaxInt} {
			if got, e := d.Read(at, n); got != "" || e != api.ErrArg {
				t.Errorf("Read(%d, %d): %q, %v", at, n, got, e)
			}
			if got, e := d.Read(n, at); got != "" || e != api.ErrArg {
				t.Errorf("Read(%d, %d): %q, %v", n, at, got, e)
			}
		}
		for _, s := range []string{"", "ab"} {
			wants(t, "Write", d.Write(at, sectors(s)), api.ErrArg)
		}
	}
	state(t, d, 0, false)
}

// P4.2: every place and number of sectors; what does not fit is written nowhere, and uses up no fuse.
func TestWriteRange(t *testing.T) {
	for at := -2; at < 8; at++ {
		for n := range 8 {
			d := made(t, 5)
			d.Write(0, sectors("vwxyz"))
			d.Flush()
			d.Fuse(n)
			part, want := sectors("1234567"[:n]), "vwxyz"
			if at < 0 || at+n > 5 {
				wants(t, "Write", d.Write(at, part), api.ErrArg)
				state(t, d, 0, false)
				d.Fuse(n)
			} else {
				want = want[:at] + "1234567"[:n] + want[at+n:]
				wants(t, "Write", d.Write(at, part), api.OK)
				state(t, d, n, false)
			}
			holds(t, d, want)
		}
	}
}

// P4.2: parts of sectors are refused, whatever else there is.
func TestWriteParts(t *testing.T) {
	d := made(t, 3)
	d.Fuse(0)
	for n := range 4 * size {
		if n%size == 0 {
			continue
		}
		for _, at := range []int{-1, 0, 1, 2, 3, 4} {
			wants(t, "Write", d.Write(at, strings.Repeat("a", n)), api.ErrArg)
		}
	}
	state(t, d, 0, false)
	holds(t, d, "\x00\x00\x00")
}

// P4.2: each byte of a sector is the one that was written.
func TestBytes(t *testing.T) {
	var b [4 * size]byte
	for i := range b {
		b[i] = byte(i*7 + i/size)
	}
	all := string(b[:])
	d := made(t, 6)
	wants(t, "Write", d.Write(1, all), api.OK)
	// R5: the disk keeps nothing of what it was handed, nor what it hands out.
	before, _ := d.Read(1, 4)
	wants(t, "Write", d.Write(1, sectors("abcd")), api.OK)
	if before != all {
		t.Fatal("other bytes")
	}
	d.Crash("\x01\x01\x01\x01\x00\x00\x00\x00")
	if got, e := d.Read(0, 6); got != sectors("\x00")+all+sectors("\x00") || e != api.OK {
		t.Fatalf("%q, %v", got, e)
	}
}

// P4.2: of several writes of a sector the last one is read, flushed or not.
func TestReadLast(t *testing.T) {
	d := made(t, 3)
	for i, x := range []struct {
		at   int
		s    string
		want string
	}{{0, "abc", "abc"}, {1, "de", "ade"}, {0, "fg", "fge"}, {1, "\x00", "f\x00e"}, {1, "h", "fhe"}, {0, "f", "fhe"}} {
		wants(t, "Write", d.Write(x.at, sectors(x.s)), api.OK)
		holds(t, d, x.want)
		if i%2 == 1 {
			wants(t, "Flush", d.Flush(), api.OK)
			holds(t, d, x.want)
		}
	}
}

// P4.2: a disk that has failed refuses everything, even what may not be asked.
func TestDown(t *testing.T) {
	d := made(t, 2)
	d.Write(0, sectors("a"))
	d.Fuse(0)
	wants(t, "Write", d.Write(1, sectors("b")), api.ErrDown)
	for range 2 {
		for _, x := range []struct{ at, n int }{{0, 0}, {0, 1}, {1, 1}, {-1, 1}, {0, 3}, {9, 9}} {
			if s, e := d.Read(x.at, x.n); s != "" || e != api.ErrDown {
				t.Errorf("Read(%d, %d): %q, %v", x.at, x.n, s, e)
			}
			wants(t, "Write", d.Write(x.at, sectors("c")), api.ErrDown)
			wants(t, "Write of nothing", d.Write(x.at, ""), api.ErrDown)
			wants(t, "Write of a part", d.Write(x.at, "c"), api.ErrDown)
		}
		wants(t, "Flush", d.Flush(), api.ErrDown)
		if d.Sectors() != 2 {
			t.Error("other sectors")
		}
		state(t, d, 1, true)
		// P4.3: whatever the fuse, the disk remains so.
		for _, n := range []int{-1, 0, 5} {
			wants(t, "Fuse", d.Fuse(n), api.OK)
			state(t, d, 1, true)
		}
	}
	wants(t, "Crash", d.Crash("1"), api.OK)
	state(t, d, 0, false)
	holds(t, d, "a\x00")
}

// P4.2, P4.3: a write of several sectors is cut off where the fuse is used up, at each place.
func TestFuseEach(t *testing.T) {
	const all = "abcdef"
	for n := range len(all) + 2 {
		d := made(t, len(all))
		wants(t, "Fuse", d.Fuse(n), api.OK)
		if n >= len(all) {
			wants(t, "Write", d.Write(0, sectors(all)), api.OK)
			state(t, d, len(all), false)
			holds(t, d, all)
			continue
		}
		wants(t, "Write", d.Write(0, sectors(all)), api.ErrDown)
		state(t, d, n, true)
		wants(t, "Crash", d.Crash("1"), api.OK)
		state(t, d, 0, false)
		holds(t, d, all[:n]+strings.Repeat("\x00", len(all)-n))
	}
}

// P4.3: a fuse counts sectors over several calls; a flush, a read, and a write of nothing use none of it up.
func TestFuseCalls(t *testing.T) {
	d := made(t, 4)
	d.Fuse(3)
	wants(t, "Write", d.Write(0, sectors("ab")), api.OK)
	wants(t, "Flush", d.Flush(), api.OK)
	holds(t, d, "ab\x00\x00")
	wants(t, "Write", d.Write(3, sectors("c")), api.OK)
	state(t, d, 1, false)
	// It is used up, but nothing is to be written.
	wants(t, "Write of nothing", d.Write(0, ""), api.OK)
	wants(t, "Write of what does not fit", d.Write(3, sectors("de")), api.ErrArg)
	wants(t, "Flush", d.Flush(), api.OK)
	holds(t, d, "ab\x00c")
	state(t, d, 0, false)
	wants(t, "Write", d.Write(2, sectors("d")), api.ErrDown)
	state(t, d, 0, true)
}

// P4.3: a fuse replaces the one that is there; a negative one removes it; a crash does.
func TestFuseReplaced(t *testing.T) {
	for _, x := range []struct{ first, second, left int }{{0, 2, 2}, {2, 0, 0}, {1, 1, 1}, {0, -1, -1}, {3, math.MinInt, -1}, {-1, 1, 1}, {-7, -8, -1}, {1, math.MaxInt, -1}} {
		d := made(t, 2)
		d.Fuse(x.first)
		wants(t, "Fuse", d.Fuse(x.second), api.OK)
		for i := range 10 {
			if x.left >= 0 && i >= x.left {
				wants(t, "Write beyond the fuse", d.Write(i%2, sectors("a")), api.ErrDown)
			} else {
				wants(t, "Write", d.Write(i%2, sectors("a")), api.OK)
			}
		}
	}
	for _, down := range []bool{false, true} {
		d := made(t, 2)
		d.Fuse(0)
		if down {
			d.Write(0, sectors("a"))
			d.Fuse(0)
		}
		wants(t, "Crash", d.Crash(""), api.OK)
		state(t, d, 0, false)
		wants(t, "Write", d.Write(0, sectors("bc")), api.OK)
		holds(t, d, "bc")
	}
}

// P4.3: which writes are kept: by the lowest bit of a byte, round and round.
func TestCrashKeep(t *testing.T) {
	for keep, want := range map[string]string{
		"":                         "....",
		"\x00":                     "....",
		"\x01":                     "ebgf",
		"\xff":                     "ebgf",
		"\xfe":                     "....",
		"\x02":                     "....",
		"\x80":                     "....",
		"\x81":                     "ebgf",
		"\x01\x00":                 "e.g.",
		"\x00\x01":                 ".bdf",
		"\x01\x00\x00":             "a.g.",
		"\x00\x01\x00":             "eb..",
		"\x00\x00\x01":             "..cf",
		"\x01\x01\x01\x01\x00\x00": "abg.",
		"0000001":                  "..g.",
		"00000001":                 "....",
		"10000000":                 "a...",
		"0011000":                  "..d.",
		"0010000":                  "..c.",
	} {
		d := made(t, 4)
		d.Write(0, sectors("...."))
		d.Flush()
		// a, b, c, then d over c, e over a, f, and g over d.
		d.Write(0, sectors("abc"))
		d.Write(2, sectors("d"))
		d.Write(0, sectors("e"))
		d.Write(3, sectors("f"))
		d.Write(2, sectors("g"))
		holds(t, d, "ebgf")
		wants(t, "Crash", d.Crash(keep), api.OK)
		state(t, d, 0, false)
		if got, e := d.Read(0, 4); got != sectors(want) || e != api.OK {
			t.Errorf("Crash(%q): %q, not %q", keep, got, want)
		}
	}
}

// P4.3: what was flushed is counted no more; what was lost is gone, and a crash that finds nothing changes nothing.
func TestCrashTwice(t *testing.T) {
	d := made(t, 3)
	d.Write(0, sectors("a"))
	d.Flush()
	d.Write(1, sectors("bc"))
	d.Crash("\x01\x00")
	holds(t, d, "ab\x00")
	for _, keep := range []string{"", "\x01", "\x00\x01"} {
		wants(t, "Crash", d.Crash(keep), api.OK)
		holds(t, d, "ab\x00")
	}
	// What a crash kept is flushed: it survives the next one.
	d.Write(0, sectors("xyz"))
	d.Crash("\x00\x00\x01")
	holds(t, d, "abz")
	d.Crash("")
	holds(t, d, "abz")
}

// The chapter's example.
func TestExample(t *testing.T) {
	d := made(t, 4)
	wants(t, "Write", d.Write(0, sectors("aa")), api.OK)
	wants(t, "Flush", d.Flush(), api.OK)
	wants(t, "Write", d.Write(1, sectors("bb")), api.OK)
	wants(t, "Crash", d.Crash("01"), api.OK)
	holds(t, d, "aab\x00")
	wants(t, "Fuse", d.Fuse(1), api.OK)
	wants(t, "Write", d.Write(0, sectors("cc")), api.ErrDown)
	_, e := d.Read(0, 1)
	wants(t, "Read", e, api.ErrDown)
	wants(t, "Crash", d.Crash("1"), api.OK)
	holds(t, d, "cab\x00")
}
