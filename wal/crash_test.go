package wal_test

import (
	"math/rand/v2"
	"slices"
	"strings"
	"testing"

	"maslin/api"
	"maslin/disk"
	"maslin/wal"
)

// model is what a log has by the definition.
type model struct {
	gen    uint64
	room   int
	groups [][]string
}

// act is one thing done to a log: a group is appended, or the log is reset.
type act struct {
	reset bool
	l     []string
}

// after returns the model after an act that returned OK.
func (m model) after(x act) model {
	if x.reset {
		return model{m.gen + 1, m.room + sectorsOf(m.groups), nil}
	}
	return model{m.gen, m.room - sectorsOf([][]string{x.l}), append(slices.Clip(m.groups), x.l)}
}

// sectorsOf returns how many sectors groups occupy.
func sectorsOf(groups [][]string) int {
	n := 0
	for _, l := range groups {
		n += len(grouped(l...)) / size
	}
	return n
}

// do does it.
func (x act) do(w *wal.Wal) api.Errno {
	if x.reset {
		return w.Reset()
	}
	return w.Append(x.l...)
}

// matches reports whether a log is as the model.
func (m model) matches(w *wal.Wal) bool {
	return w.Gen() == m.gen && w.Room() == m.room && same(w.Groups(), m.groups)
}

// keeps returns what crashes are told to keep, of n unflushed writes: each choice if there are few.
func keeps(n int) []string {
	all := []string{""}
	for choice := range 1 << min(n, 6) {
		var b strings.Builder
		for i := range n {
			b.WriteByte(byte(choice >> (i % 6) & 1))
		}
		all = append(all, b.String())
	}
	return all
}

// eachCrash opens the log on a copy of the disk after each crash.
func eachCrash(t *testing.T, d *disk.Disk, from, n int, each func(c *disk.Disk, w *wal.Wal)) {
	t.Helper()
	for _, keep := range keeps(d.Loose()) {
		c := d.Copy()
		c.Crash(keep)
		each(c, opened(t, c, from, n))
	}
}

// P5.3: the disk fails at each place of each act, and a crash keeps whatever it may.
func TestCrashEach(t *testing.T) {
	history := []act{
		{l: []string{"a", ""}}, {l: []string{xs(150)}}, {l: nil}, {reset: true},
		{l: []string{xs(70)}}, {l: []string{"b"}}, {reset: true}, {reset: true},
		{l: []string{xs(300)}}, {l: []string{xs(56)}}, {reset: true}, {l: []string{"c", xs(60)}},
	}
	d := drive(t, 11, 0, zeros(11))
	m := model{room: 7}
	for i, x := range history {
		next := m.after(x)
		need := 1
		if !x.reset {
			need += sectorsOf([][]string{x.l})
		}
		for fuse := range need + 1 {
			c := d.Copy()
			w := opened(t, c, 2, 8)
			c.Fuse(fuse)
			e := x.do(w)
			want := m
			if fuse == need {
				want = next
			}
			if (e == api.OK) != (fuse == need) || !want.matches(w) || w.Fault() != e {
				t.Fatalf("act %d, fuse %d: %v", i, fuse, e)
			}
			eachCrash(t, c, 2, 8, func(_ *disk.Disk, again *wal.Wal) {
				if !want.matches(again) {
					t.Fatalf("act %d, fuse %d: generation %d, %d groups", i, fuse, again.Gen(), len(again.Groups()))
				}
			})
		}
		w := opened(t, d, 2, 8)
		wants(t, "act", x.do(w), api.OK)
		m = next
	}
}

// P5.3: a group is flushed ahead of the header that counts it, and the header ahead of the answer.
func TestFlushes(t *testing.T) {
	l := []string{xs(100)}
	for fuse := range 4 {
		d := drive(t, 5, 0, headed(1, 1)+grouped("a"))
		w := opened(t, d, 0, 5)
		d.Fuse(fuse)
		e := w.Append(l...)
		want := headed(1, 1) + grouped("a")
		switch fuse {
		case 0, 1:
			if e != api.ErrDown || d.Loose() != fuse {
				t.Fatalf("fuse %d: %v, %d unflushed", fuse, e, d.Loose())
			}
			want += zeros(2)
		case 2:
			if e != api.ErrDown || d.Loose() != 0 {
				t.Fatalf("fuse 2: %v, %d unflushed", e, d.Loose())
			}
			want += grouped(l...)
		case 3:
			if e != api.OK || d.Loose() != 0 {
				t.Fatalf("fuse 3: %v, %d unflushed", e, d.Loose())
			}
			want = headed(1, 3) + grouped("a") + grouped(l...)
		}
		d.Crash("")
		if got := contents(t, d); got != want+zeros(1) {
			t.Fatalf("fuse %d: %q", fuse, got)
		}
	}
	d := drive(t, 5, 0, headed(1, 1)+grouped("a"))
	w := opened(t, d, 0, 5)
	if e := w.Reset(); e != api.OK || d.Loose() != 0 {
		t.Fatalf("Reset: %v, %d unflushed", e, d.Loose())
	}
	d.Crash("")
	if got := contents(t, d); got != headed(2, 0)+grouped("a")+zeros(3) {
		t.Fatalf("Reset: %q", got)
	}
}

// P5.2: what others wrote to the disk is flushed along with a log's writes, and survives likewise.
func TestOthersLoose(t *testing.T) {
	for _, x := range []act{{l: []string{"a"}}, {reset: true}} {
		d := drive(t, 5, 0, zeros(5))
		w := opened(t, d, 0, 4)
		d.Write(4, strings.Repeat("~", size))
		wants(t, "act", x.do(w), api.OK)
		d.Crash("")
		if got, e := d.Read(4, 1); got != strings.Repeat("~", size) || e != api.OK {
			t.Fatalf("%q, %v", got, e)
		}
	}
}

// random returns an act, now and then one that does not fit.
func random(r *rand.Rand) act {
	if r.IntN(6) == 0 {
		return act{reset: true}
	}
	var l []string
	for range r.IntN(4) {
		b := make([]byte, r.IntN(120))
		for i := range b {
			b[i] = byte(r.Uint32()) & byte(r.Uint32())
		}
		l = append(l, string(b))
	}
	return act{l: l}
}

// told is what a log answers an act, if its disk has that many sectors to write: its error.
func (m model) told(x act, fuse int) api.Errno {
	need := 1
	if !x.reset {
		n := sectorsOf([][]string{x.l})
		if n > m.room {
			return api.ErrFull
		}
		need += n
	}
	if fuse < need {
		return api.ErrDown
	}
	return api.OK
}

// P5.1 to P5.3: whatever is done in whatever order, through failures and crashes, a log is as the definition says, and nothing beside it changes.
func TestModel(t *testing.T) {
	for seed := range uint64(200) {
		r := rand.New(rand.NewPCG(5, seed))
		before, n, behind := r.IntN(3), 2+r.IntN(14), r.IntN(3)
		sides := [2]string{strings.Repeat("<", before*size), strings.Repeat(">", behind*size)}
		d := drive(t, before+n+behind, 0, sides[0]+zeros(n)+sides[1])
		w, m := opened(t, d, before, n), model{room: n - 1}
		for range 80 {
			x, fuse := random(r), n+1
			if r.IntN(5) == 0 {
				fuse = r.IntN(4)
				d.Fuse(fuse)
			}
			e := x.do(w)
			if want := m.told(x, fuse); e != want {
				t.Fatalf("seed %d: %v, not %v", seed, e, want)
			}
			if e == api.OK {
				m = m.after(x)
			}
			if e == api.ErrDown || r.IntN(5) == 0 {
				b := make([]byte, r.IntN(8))
				for i := range b {
					b[i] = byte(r.Uint32())
				}
				d.Crash(string(b))
				w = opened(t, d, before, n)
			}
			d.Fuse(-1)
			if !m.matches(w) || w.Fault() != api.OK {
				t.Fatalf("seed %d: generation %d, room %d, groups %q; not %+v", seed, w.Gen(), w.Room(), w.Groups(), m)
			}
			all := contents(t, d)
			if all[:before*size] != sides[0] || all[(before+n)*size:] != sides[1] {
				t.Fatalf("seed %d: something beside the log was written", seed)
			}
		}
	}
}

// R1, P5.1: whatever the sectors have, Open ends; and what it accepts is, written anew, the same sectors.
func TestOpenNoise(t *testing.T) {
	accepted := 0
	for seed := range uint64(3000) {
		r := rand.New(rand.NewPCG(6, seed))
		gen, used := r.Uint64N(3), r.Uint32N(6)
		var body []byte
		for range 1 + r.IntN(3) {
			body = append(body, grouped(random(r).l...)...)
		}
		for range r.IntN(3) {
			body[r.IntN(len(body))] = byte(r.Uint32N(3))
		}
		d := drive(t, 32, 0, headed(gen, used)+string(body))
		w, e := wal.Open(d, 0, 32)
		if e != api.OK {
			if w != nil || e != api.ErrBad {
				t.Fatalf("seed %d: %v, %v", seed, w, e)
			}
			continue
		}
		accepted++
		var again strings.Builder
		for _, l := range w.Groups() {
			again.WriteString(grouped(l...))
		}
		if again.Len() != int(used)*size || !strings.HasPrefix(string(body)+zeros(32), again.String()) || w.Gen() != gen || w.Room() != 31-int(used) {
			t.Fatalf("seed %d: other groups than there are", seed)
		}
	}
	if accepted < 100 || accepted > 2900 {
		t.Fatalf("%d of 3000 accepted", accepted)
	}
}
