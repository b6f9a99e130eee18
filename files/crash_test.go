package files_test

import (
	"math/rand/v2"
	"slices"
	"strings"
	"testing"

	"maslin/api"
	"maslin/disk"
	"maslin/files"
)

// keeps returns what crashes are told to keep, of n unflushed writes: each choice if there are few.
func keeps(n int) []string {
	l := []string{""}
	for choice := range 1 << min(n, 7) {
		var b strings.Builder
		for i := range n {
			b.WriteByte(byte(choice >> (i % 7) & 1))
		}
		l = append(l, b.String())
	}
	return l
}

// costs returns how many sectors a commit writes, and whether it is by way of an area.
func costs(t *testing.T, d *disk.Disk, s state, l []api.Change) (n int, whole bool) {
	t.Helper()
	room := logOf(t, d).Room()
	group := 4 + 2
	for _, x := range l {
		group += 2 + 1 + len(x.Name) + 2 + len(x.Data)
	}
	if need := (group + size - 1) / size; need <= room {
		return need + 1, false
	}
	return (4+len(s.after(l...).code())+size-1)/size + 2, true
}

// P6.2, P6.4: the disk fails at each place of each commit, and a crash keeps whatever it may.
func TestCrashEach(t *testing.T) {
	history := [][]api.Change{
		{put("a", "1"), put("b", "2")},
		{gone("a"), put("c", xs(90))},
		{put("c", xs(200)), put("a", "3"), gone("b")},
		{},
		{put("a", "4"), put("d", xs(30))},
		{put("e", xs(70)), gone("c")},
		{gone("a"), gone("d"), put("f", xs(200)), put("e", xs(60))},
		{gone("e"), gone("f")},
		{put("a", xs(400))},
		{gone("a")},
		{},
		{},
	}
	for _, sectors := range []int{24, 32} {
		d, s := empty(t, sectors), state{}
		for i, l := range history {
			next := s.after(l...)
			need, whole := costs(t, d, s, l)
			for fuse := range need + 1 {
				c := d.Copy()
				f := opened(t, c)
				c.Fuse(fuse)
				e := f.Commit(l...)
				switch {
				case fuse == need:
					wants(t, "Commit", e, api.OK)
					is(t, f, next, api.OK)
				default:
					wants(t, "Commit", e, api.ErrDown)
					is(t, f, s, api.ErrDown)
				}
				// Once the header names the area the changes are there, though the log is not reset.
				want := s
				if fuse == need || whole && fuse == need-1 {
					want = next
				}
				crashes(t, c, f, want)
				if t.Failed() {
					t.Fatalf("commit %d, fuse %d of %d", i, fuse, need)
				}
			}
			wants(t, "Commit", opened(t, d).Commit(l...), api.OK)
			s = next
		}
	}
}

// crashes opens what each crash leaves of the disk, and goes on with it; files that failed do not.
func crashes(t *testing.T, d *disk.Disk, f *files.Files, want state) {
	t.Helper()
	fault := f.Fault()
	if fault != api.OK {
		failed(t, f)
		if _, e := files.Open(d); e != fault {
			t.Errorf("Open: %v, not %v", e, fault)
		}
	}
	for _, keep := range keeps(d.Loose()) {
		c := d.Copy()
		c.Crash(keep)
		again := opened(t, c)
		if !want.has(again) || again.Fault() != api.OK {
			t.Errorf("keep %q: %q, %v", keep, again.Names(), again.Fault())
			continue
		}
		more := []api.Change{put("more", xs(40)), gone("a")}
		for range 4 {
			wants(t, "Commit", again.Commit(more...), api.OK)
			is(t, opened(t, c), want.after(more...), api.OK)
		}
	}
	if fault == api.OK {
		return
	}
	// The disk works again; the files do not, and write nothing.
	c := d
	c.Crash("1")
	before, was := all(t, c), f.Names()
	failed(t, f)
	if c.Loose() != 0 || all(t, c) != before || f.Fault() != fault || !slices.Equal(f.Names(), was) {
		t.Error("files that failed have written")
	}
}

// P6.2: the area is flushed ahead of the header, the header ahead of the log's reset, and that ahead of the answer.
func TestFlushes(t *testing.T) {
	old, next := state{"a": "1"}, state{"a": "1", "b": xs(300)}
	text := whole(sized(next.code()))
	n := len(text) / size
	p := partsOf(24)
	for fuse := range n + 3 {
		d := made(t, 24, 0, 2, sized(old.code()), 2)
		f := opened(t, d)
		d.Fuse(fuse)
		e := f.Commit(put("b", xs(300)))
		loose, header, log, area := 0, headed(0, 2), logged(2), text
		switch {
		case fuse < n:
			loose, area = fuse, ""
		case fuse == n+1:
			header = headed(1, 3)
		case fuse == n+2:
			header, log = headed(1, 3), logged(3)
		}
		if (e == api.OK) != (fuse == n+2) || d.Loose() != loose {
			t.Fatalf("fuse %d: %v, %d unflushed, not %d", fuse, e, d.Loose(), loose)
		}
		d.Crash("")
		got := all(t, d)
		if got[:2*size] != header+log || got[p.areas[1]*size:] != area+zeros(p.area-len(area)/size) {
			t.Fatalf("fuse %d: %q", fuse, got)
		}
	}
}

// P6.4: the log that is reset while files are opened, with a disk that fails again and again.
func TestCrashAgain(t *testing.T) {
	d := empty(t, 24)
	f := opened(t, d)
	wants(t, "Commit", f.Commit(put("a", "1"), put("b", "2")), api.OK)
	l := []api.Change{gone("a"), put("b", xs(200))}
	need, _ := costs(t, d, state{"a": "1", "b": "2"}, l)
	d.Fuse(need - 1)
	wants(t, "Commit", f.Commit(l...), api.ErrDown)
	want := state{"b": xs(200)}
	for range 5 {
		d.Crash("")
		if w := logOf(t, d); w.Gen() != 0 || len(w.Groups()) != 1 {
			t.Fatalf("generation %d, groups %q", w.Gen(), w.Groups())
		}
		d.Fuse(0)
		refused(t, d, api.ErrDown)
	}
	d.Crash("1")
	is(t, opened(t, d), want, api.OK)
	if w := logOf(t, d); w.Gen() != 1 || len(w.Groups()) != 0 {
		t.Fatalf("generation %d, groups %q", w.Gen(), w.Groups())
	}
	is(t, opened(t, d), want, api.OK)
}

// random returns a change, now and then one that may not be.
func random(r *rand.Rand) api.Change {
	name := string(rune('a' + r.IntN(6)))
	switch r.IntN(24) {
	case 0:
		return wrongChanges()[r.IntN(len(wrongChanges()))]
	case 1, 2, 3, 4, 5:
		return gone(name)
	}
	b := make([]byte, r.IntN(1+r.IntN(120)))
	for i := range b {
		b[i] = byte(r.Uint32()) & byte(r.Uint32())
	}
	return put(name, string(b))
}

// told is what files answer a commit, if the disk has that many sectors to write: its error.
func told(t *testing.T, d *disk.Disk, s state, l []api.Change, fuse int) api.Errno {
	for _, x := range l {
		if x.Name == "" || len(x.Name) > 32 || len(x.Data) > 65535 || x.Gone && x.Data != "" {
			return api.ErrArg
		}
	}
	if len(s.after(l...).code()) > partsOf(d.Sectors()).area*size-4 {
		return api.ErrFull
	}
	if n, _ := costs(t, d, s, l); fuse >= 0 && n > fuse {
		return api.ErrDown
	}
	return api.OK
}

// P6.1 to P6.4: whatever is done in whatever order, through failures and crashes, files are as the definition says.
func TestModel(t *testing.T) {
	answers := map[api.Errno]int{}
	for seed := range uint64(300) {
		r := rand.New(rand.NewPCG(6, seed))
		d := empty(t, 8+r.IntN(40))
		f, s := opened(t, d), state{}
		for range 60 {
			var l []api.Change
			for range r.IntN(4) {
				l = append(l, random(r))
			}
			fuse := -1
			if r.IntN(4) == 0 {
				fuse = r.IntN(12)
			}
			want := told(t, d, s, l, fuse)
			_, whole := costs(t, d, s, l)
			d.Fuse(fuse)
			e := f.Commit(l...)
			answers[e]++
			if e != want {
				t.Fatalf("seed %d: %v, not %v", seed, e, want)
			}
			next := s.after(l...)
			if e == api.OK {
				s = next
			}
			fault := api.OK
			if e == api.ErrDown {
				fault = e
			}
			is(t, f, s, fault)
			d.Fuse(-1)
			if e == api.ErrDown || r.IntN(5) == 0 {
				b := make([]byte, r.IntN(8))
				for i := range b {
					b[i] = byte(r.Uint32())
				}
				d.Crash(string(b))
				f = opened(t, d)
				if e == api.ErrDown && whole && next.has(f) {
					s = next
				}
			}
			is(t, f, s, api.OK)
		}
	}
	for _, e := range []api.Errno{api.OK, api.ErrArg, api.ErrFull, api.ErrDown} {
		if answers[e] < 200 {
			t.Errorf("only %d commits answer %v", answers[e], e)
		}
	}
}

// R1, P6.1: whatever the sectors have, Open ends; and what it accepts is, in the area, the same bytes.
func TestOpenNoise(t *testing.T) {
	accepted := 0
	for seed := range uint64(6000) {
		r := rand.New(rand.NewPCG(7, seed))
		s := state{}
		for range r.IntN(4) {
			if x := random(r); len(x.Name) == 1 && len(x.Data) < 200 {
				s[x.Name] = x.Data
			}
		}
		text := []byte(sized(s.code()))
		for range r.IntN(3) {
			text[r.IntN(len(text))] = byte(r.Uint32N(3))
		}
		d := made(t, 128, byte(seed%2), 1, string(text), 1)
		f, e := files.Open(d)
		if e != api.OK {
			if f != nil || e != api.ErrBad {
				t.Fatalf("seed %d: files %v, %v", seed, f != nil, e)
			}
			continue
		}
		accepted++
		again := state{}
		for _, name := range f.Names() {
			again[name], _ = f.Get(name)
		}
		if code := again.code(); !strings.HasPrefix(string(text)+zeros(9), sized(code)) || f.Used() != len(code) {
			t.Fatalf("seed %d: other files than there are", seed)
		}
	}
	if accepted < 300 || accepted > 5700 {
		t.Fatalf("%d of 6000 accepted", accepted)
	}
}

// R1, P6.1: whatever strings groups have, Open ends; and what it accepts are valid changes, applied.
func TestOpenNoiseGroups(t *testing.T) {
	accepted := 0
	for seed := range uint64(4000) {
		r := rand.New(rand.NewPCG(8, seed))
		var groups [][]string
		valid, want := true, state{"a": "0"}
		for range r.IntN(3) {
			var l []string
			for range r.IntN(4) {
				l = append(l, []string{"\x00a", "\x01a", "\x00b", "\x01b", "\x00", "", "x"}[r.IntN(4+r.IntN(4))], []string{"", "", "y"}[r.IntN(3)])
			}
			if r.IntN(9) == 0 {
				l = append(l, "\x00c")
			}
			groups = append(groups, l)
			for i := 0; i < len(l); i += 2 {
				ok := i+1 < len(l) && len(l[i]) == 2 && (l[i][0] == 0 || l[i+1] == "")
				valid = valid && ok
				if valid {
					want = want.after(api.Change{Name: l[i][1:], Data: l[i+1], Gone: l[i][0] == 1})
				}
			}
		}
		f, e := files.Open(made(t, 64, 0, 1, sized(state{"a": "0"}.code()), 1, groups...))
		if (e == api.OK) != valid || e != api.OK && (f != nil || e != api.ErrBad) {
			t.Fatalf("seed %d: %v, %q", seed, e, groups)
		}
		if valid {
			accepted++
			is(t, f, want, api.OK)
		}
	}
	if accepted < 300 || accepted > 3700 {
		t.Fatalf("%d of 4000 accepted", accepted)
	}
}
