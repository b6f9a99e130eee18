package files_test

import (
	"slices"
	"strings"
	"testing"

	"maslin/api"
	"maslin/files"
)

// wrongChanges returns changes that may not be.
func wrongChanges() []api.Change {
	long := strings.Repeat("n", api.MaxFileName+1)
	return []api.Change{
		{},
		put("", "a"),
		gone(""),
		put(long, ""),
		put(long, "a"),
		gone(long),
		put("a", xs(api.MaxText+1)),
		{Name: "a", Data: "x", Gone: true},
		{Name: "a", Data: "\x00", Gone: true},
		{Name: "a", Data: xs(api.MaxText + 1), Gone: true},
	}
}

// P6.2: one change that may not be, anywhere, and nothing is done; it is told ahead of a lack of room.
func TestCommitWrong(t *testing.T) {
	d := empty(t, 40)
	f := opened(t, d)
	wants(t, "Commit", f.Commit(put("a", "old")), api.OK)
	before := all(t, d)
	full := put("big", xs(f.Room()))
	wants(t, "Commit", f.Commit(full), api.ErrFull)
	for _, x := range wrongChanges() {
		for _, l := range [][]api.Change{
			{x},
			{x, put("b", "c")},
			{put("b", "c"), x},
			{put("b", "c"), x, gone("a")},
			{full, x},
			{x, full},
		} {
			wants(t, "Commit", f.Commit(l...), api.ErrArg)
		}
	}
	is(t, f, state{"a": "old"}, api.OK)
	if d.Loose() != 0 || all(t, d) != before {
		t.Error("something was written")
	}
}

// P6.2, P6.3: names and contents at their edges, and of any bytes.
func TestCommitEdges(t *testing.T) {
	long := strings.Repeat("n", api.MaxFileName)
	var b [api.MaxText]byte
	for i := range b {
		b[i] = byte(i * i >> 3)
	}
	d := empty(t, api.MaxSectors)
	f := opened(t, d)
	s := state{}
	for _, l := range [][]api.Change{
		{put("a", ""), put(long, "b")},
		{put(long[1:], string(b[:]))},
		{put("\x00", "\x01"), put("\x01", "\x00"), put("\xff\xfe", "\xff"), put("é", "ü")},
		{put("a", string(b[:])), put("b", string(b[:])), put("c", string(b[:api.MaxText-1]))},
		{gone(long), gone("none"), gone("\x00")},
		{put("a", "1"), put("a", "2"), gone("b"), put("b", "3"), gone("c"), put("d", "4"), gone("d")},
		{gone("a"), gone("a"), put("a", string(b[:]))},
	} {
		wants(t, "Commit", f.Commit(l...), api.OK)
		s = s.after(l...)
		is(t, f, s, api.OK)
		is(t, opened(t, d), s, api.OK)
	}
	for _, name := range []string{"", "none", "A", "a\x00", long + "n", "\x00"} {
		if got, is := f.Get(name); got != "" || is || f.Size(name) != 0 {
			t.Errorf("a file %q: %q", name, got)
		}
	}
}

// P6.2: a commit of nothing is a group without strings, which needs a sector.
func TestCommitNothing(t *testing.T) {
	d := empty(t, 24)
	f := opened(t, d)
	wants(t, "Commit", f.Commit(put("a", "b")), api.OK)
	wants(t, "Commit", f.Commit(), api.OK)
	if w := logOf(t, d); len(w.Groups()) != 2 || len(w.Groups()[1]) != 0 || w.Room() != 0 {
		t.Fatalf("groups %q", w.Groups())
	}
	wants(t, "Commit", f.Commit(), api.OK)
	if w := logOf(t, d); len(w.Groups()) != 0 || w.Gen() != 1 {
		t.Fatalf("groups %q", w.Groups())
	}
	is(t, f, state{"a": "b"}, api.OK)
	is(t, opened(t, d), state{"a": "b"}, api.OK)
}

// P6.2: all room is there, to the last byte, by way of the log, and of an area; one byte more is ErrFull, and changes nothing.
func TestFull(t *testing.T) {
	for n := api.MinFiles; n < 60; n++ {
		d := empty(t, n)
		f := opened(t, d)
		most := f.Room() - 13
		for round := range 6 {
			s := state{"a": xs(most)}
			over := []api.Change{put("a", xs(most+1))}
			if round%2 == 1 {
				s = state{"a": xs(most - 20), "b": "1", "c": "2"}
				over = []api.Change{put("b", "1"), put("c", "22")}
			}
			before := all(t, d)
			was := f.Names()
			wants(t, "Commit", f.Commit(append([]api.Change{gone("b"), gone("c"), put("a", s["a"])}, over...)...), api.ErrFull)
			if d.Loose() != 0 || all(t, d) != before || !slices.Equal(f.Names(), was) {
				t.Fatalf("%d sectors: something was written", n)
			}
			// Only what there is in the end needs room.
			l := []api.Change{put("d", xs(most)), gone("b"), gone("c")}
			for _, name := range []string{"a", "b", "c"} {
				if data, is := s[name]; is {
					l = append(l, put(name, data))
				}
			}
			l = append(l, gone("d"))
			wants(t, "Commit", f.Commit(l...), api.OK)
			is(t, f, s, api.OK)
			if f.Used() != f.Room() {
				t.Fatalf("%d sectors: used %d of %d", n, f.Used(), f.Room())
			}
			is(t, opened(t, d), s, api.OK)
			wants(t, "Commit", f.Commit(put("e", "")), api.ErrFull)
			wants(t, "Commit", f.Commit(over...), api.ErrFull)
			is(t, f, s, api.OK)
		}
	}
}

// P6.2: that the log has space for the changes makes no room for the files.
func TestFullLog(t *testing.T) {
	d := empty(t, 128)
	f := opened(t, d)
	wants(t, "Commit", f.Commit(put("a", xs(f.Room()-13))), api.OK)
	if w := logOf(t, d); w.Room() < 10 {
		t.Fatalf("the log has room for %d sectors", w.Room())
	}
	wants(t, "Commit", f.Commit(put("b", "")), api.ErrFull)
	wants(t, "Commit", f.Commit(gone("a"), put("b", "")), api.OK)
	is(t, opened(t, d), state{"b": ""}, api.OK)
}

// P6.2: each byte that is written is the one that the definition says, and all of it is flushed.
func TestBytes(t *testing.T) {
	p := partsOf(24)
	d := empty(t, 24)
	f := opened(t, d)
	header, areas := zeros(1), [2]string{zeros(p.area), zeros(p.area)}
	check := func(gen uint64, groups ...[]string) {
		t.Helper()
		got := all(t, d)
		if d.Loose() != 0 || got[:size] != header || got[p.areas[0]*size:] != areas[0]+areas[1] {
			t.Fatalf("%d unflushed, or other sectors: %q", d.Loose(), got)
		}
		w := logOf(t, d)
		if w.Gen() != gen || !slices.EqualFunc(w.Groups(), groups, slices.Equal[[]string]) {
			t.Fatalf("generation %d, groups %q; not %d, %q", w.Gen(), w.Groups(), gen, groups)
		}
		d.Crash("")
	}
	commit := func(l ...api.Change) {
		t.Helper()
		wants(t, "Commit", f.Commit(l...), api.OK)
	}
	lay := func(area byte, seq uint64, s state) {
		text := whole(sized(s.code()))
		header = headed(area, seq)
		// What was there behind the files' sectors remains.
		areas[area] = text + areas[area][len(text):]
	}
	commit(put("a", "1"))
	check(0, texts(put("a", "1")))
	commit(put("b", "2"), gone("a"), gone("none"))
	check(0, texts(put("a", "1")), texts(put("b", "2"), gone("a"), gone("none")))
	// The log is full: the files go into the other area than the one that a header of zeros counts as.
	commit(put("c", xs(150)), put("a", "3"))
	lay(1, 1, state{"a": "3", "b": "2", "c": xs(150)})
	check(1)
	// A group that no log has space for.
	commit(put("c", xs(300)))
	lay(0, 2, state{"a": "3", "b": "2", "c": xs(300)})
	check(2)
	commit(put("c", ""), put("d", xs(41)))
	check(2, texts(put("c", ""), put("d", xs(41))))
	commit(gone("a"), gone("b"), gone("c"), gone("d"), put("e", xs(200)))
	lay(1, 3, state{"e": xs(200)})
	check(3)
	commit(gone("e"))
	commit()
	check(3, texts(gone("e")), nil)
	commit()
	lay(0, 4, state{})
	check(4)
	is(t, f, nil, api.OK)
	is(t, opened(t, d), nil, api.OK)
}

// P6.2: a log whose generation is beyond the header's sequence number: the next one counts from the generation on.
func TestGenerationBeyond(t *testing.T) {
	d := made(t, 24, 1, 3, sized(state{"a": "b"}.code()), 8)
	f := opened(t, d)
	wants(t, "Commit", f.Commit(put("c", xs(300))), api.OK)
	if got := all(t, d)[:2*size]; got != headed(0, 9)+logged(9) {
		t.Fatalf("%q", got)
	}
	is(t, opened(t, d), state{"a": "b", "c": xs(300)}, api.OK)
}

// P6.2: a group that just fits into the log, and one that does not.
func TestLogEdge(t *testing.T) {
	for n := api.MinFiles; n < 64; n++ {
		room := partsOf(n).log - 1
		// Four bytes for the length, two for the number of strings, two for each string's length, two for the name.
		fits := room*size - 4 - 2 - 2 - 2 - 2
		for k, gen := range []uint64{0, 1} {
			d := empty(t, n)
			f := opened(t, d)
			wants(t, "Commit", f.Commit(put("a", xs(fits+k))), api.OK)
			if w := logOf(t, d); w.Gen() != gen || len(w.Groups()) != 1-k || w.Room() != room*k {
				t.Fatalf("%d sectors: generation %d, %d groups, room %d", n, w.Gen(), len(w.Groups()), w.Room())
			}
			is(t, opened(t, d), state{"a": xs(fits + k)}, api.OK)
		}
	}
}

// P6.2: more changes than a group may have strings for are stored all the same.
func TestManyChanges(t *testing.T) {
	for _, n := range []int{api.MaxText / 2, api.MaxText/2 + 1, api.MaxText + 2} {
		d := empty(t, api.MaxSectors)
		f := opened(t, d)
		var l []api.Change
		want := state{}
		for i := range n {
			x := put(string([]byte{byte(i), byte(i >> 8)}), "")
			if i >= 1<<15 {
				x = gone(l[i-1<<15].Name)
			}
			l = append(l, x)
		}
		want = want.after(l...)
		wants(t, "Commit", f.Commit(l...), api.OK)
		is(t, f, want, api.OK)
		is(t, opened(t, d), want, api.OK)
		if w := logOf(t, d); w.Gen() != 1 || len(w.Groups()) != 0 {
			t.Errorf("%d changes: generation %d", n, w.Gen())
		}
		wants(t, "Commit of one that may not be", f.Commit(append(l, api.Change{})...), api.ErrArg)
	}
}

// P6.3: names are in ascending order of their bytes.
func TestNames(t *testing.T) {
	f := opened(t, empty(t, 64))
	wants(t, "Commit", f.Commit(put("b", ""), put("\xff", ""), put("a", ""), put("é", ""), put("Z", ""), put("ab", ""), put("a\x00", ""), put("\x00", "")), api.OK)
	want := []string{"\x00", "Z", "a", "a\x00", "ab", "b", "é", "\xff"}
	for range 20 {
		if got := f.Names(); !slices.Equal(got, want) {
			t.Fatalf("%q", got)
		}
	}
}

// R5: files keep nothing of the changes that they are handed, nor of the names that they hand out.
func TestApart(t *testing.T) {
	d := empty(t, 40)
	f := opened(t, d)
	l := []api.Change{put("a", "1"), put("b", "2"), gone("c")}
	wants(t, "Commit", f.Commit(l[:2]...), api.OK)
	if !slices.Equal(l, []api.Change{put("a", "1"), put("b", "2"), gone("c")}) {
		t.Error("the argument was changed")
	}
	l[0], l[1] = put("y", "8"), gone("b")
	want := state{"a": "1", "b": "2"}
	is(t, f, want, api.OK)
	one, two := f.Names(), f.Names()
	one[0] = "changed"
	_ = append(one[:1], "more")
	if !slices.Equal(two, []string{"a", "b"}) {
		t.Error("two answers share a list")
	}
	is(t, f, want, api.OK)
	is(t, opened(t, d), want, api.OK)
	wants(t, "Commit", f.Commit(gone("a"), put("c", "3")), api.OK)
	if !slices.Equal(two, []string{"a", "b"}) {
		t.Error("an answer was changed")
	}
}

// Two disks have nothing to do with each other, nor has what is opened of a copy.
func TestDisksApart(t *testing.T) {
	d := empty(t, 24)
	f := opened(t, d)
	wants(t, "Commit", f.Commit(put("a", "1")), api.OK)
	c := d.Copy()
	g := opened(t, c)
	wants(t, "Commit", f.Commit(put("a", xs(200))), api.OK)
	wants(t, "Commit", g.Commit(gone("a"), put("b", "2")), api.OK)
	is(t, f, state{"a": xs(200)}, api.OK)
	is(t, g, state{"b": "2"}, api.OK)
	if f.Disk() != d || g.Disk() != c {
		t.Error("another disk")
	}
	is(t, opened(t, d), state{"a": xs(200)}, api.OK)
	is(t, opened(t, c), state{"b": "2"}, api.OK)
}

// P6.2, R2: a disk that has failed is found out only by what is written.
func TestDownOrder(t *testing.T) {
	d := empty(t, 24)
	f := opened(t, d)
	wants(t, "Commit", f.Commit(put("a", "1")), api.OK)
	d.Fuse(0)
	d.Write(0, zeros(1))
	wants(t, "Commit of what may not be", f.Commit(put("", "")), api.ErrArg)
	wants(t, "Commit of what does not fit", f.Commit(put("b", xs(f.Room()))), api.ErrFull)
	is(t, f, state{"a": "1"}, api.OK)
	wants(t, "Commit of nothing", f.Commit(), api.ErrDown)
	is(t, f, state{"a": "1"}, api.ErrDown)
	failed(t, f)
}

// failed fails unless everything is refused with the fault.
func failed(t *testing.T, f *files.Files) {
	t.Helper()
	wants(t, "Commit", f.Commit(put("c", "d")), api.ErrDown)
	wants(t, "Commit of nothing", f.Commit(), api.ErrDown)
	wants(t, "Commit of what may not be", f.Commit(put("", "")), api.ErrDown)
	wants(t, "Commit of what does not fit", f.Commit(put("b", xs(f.Room()))), api.ErrDown)
}
