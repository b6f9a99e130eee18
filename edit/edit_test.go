package edit_test

import (
	"math"
	"math/rand/v2"
	"slices"
	"strings"
	"testing"
	"time"
	"unsafe"

	"maslin/api"
	"maslin/edit"
	"maslin/lines"
)

// each is a cutter whose pieces are the records.
var each = api.Cutter{Poly: 283, Window: 1, Min: 1, Max: 1}

// wrongCutters returns cutters that are not valid.
func wrongCutters() []api.Cutter {
	return []api.Cutter{
		{},
		{Poly: 255, Window: 1, Min: 1, Max: 1},
		{Poly: 1 << 57, Window: 1, Min: 1, Max: 1},
		{Poly: 283, Window: 0, Min: 1, Max: 1},
		{Poly: 283, Window: api.MaxWindow + 1, Min: api.MaxWindow + 1, Max: api.MaxPiece},
		{Poly: 283, Window: 2, Min: 1, Max: 3},
		{Poly: 283, Window: 1, Min: 3, Max: 2},
		{Poly: 283, Window: 1, Min: 1, Max: api.MaxPiece + 1},
		{Poly: 283, Window: 1, Min: 1, Max: 1, Bits: -1},
		{Poly: 283, Window: 1, Min: 1, Max: 1, Bits: 17},
	}
}

// rightCutters returns valid cutters, the edges among them.
func rightCutters() []api.Cutter {
	return []api.Cutter{
		each,
		{Poly: 283, Window: 1, Min: 1, Max: 3, Bits: 1},
		{Poly: 283, Window: 2, Min: 2, Max: 4, Bits: 2},
		{Poly: 283, Window: 3, Min: 3, Max: 3},
		{Poly: 256, Window: 1, Min: 1, Max: api.MaxPiece, Bits: 16},
		{Poly: 1<<57 - 1, Window: api.MaxWindow, Min: api.MaxWindow, Max: api.MaxWindow, Bits: 1},
	}
}

// cutter returns a random valid cutter, with pieces of few bytes.
func cutter(r *rand.Rand) api.Cutter {
	window := 1 + r.IntN([]int{3, 10, api.MaxWindow}[r.IntN(3)])
	least := window + r.IntN(8)*r.IntN(4)
	d := 8 + r.IntN(api.MaxDeg-7)
	return api.Cutter{
		Poly:   1<<d | r.Uint64()&(1<<d-1),
		Window: window,
		Min:    least,
		Max:    least + r.IntN(20)*r.IntN(4),
		Bits:   r.IntN(7),
	}
}

// text returns n bytes, of kinds kinds and a byte 10 each few.
func text(r *rand.Rand, n, kinds, every int) string {
	b := make([]byte, n)
	for i := range b {
		b[i] = byte(r.IntN(kinds))
		if r.IntN(every) == 0 {
			b[i] = 10
		}
	}
	return string(b)
}

// change returns a random edit that is applicable to s, often of nothing, or with nothing.
func change(r *rand.Rand, s string, kinds, every int) api.Edit {
	at := r.IntN(len(s) + 1)
	cut := r.IntN(min(len(s)-at, 60)+1) * r.IntN(2)
	return api.Edit{At: at, Cut: cut, Put: text(r, r.IntN(60)*r.IntN(2), kinds, every)}
}

// shortTexts returns all strings of at most n bytes that are a or 10.
func shortTexts(n int) []string {
	var l []string
	for k := range n + 1 {
		for v := range 1 << k {
			b := make([]byte, k)
			for i := range b {
				b[i] = 'a'
				if v>>i&1 == 1 {
					b[i] = 10
				}
			}
			l = append(l, string(b))
		}
	}
	return l
}

// eachEdit calls f with each edit that is applicable to s and puts one of these strings.
func eachEdit(s string, puts []string, f func(e api.Edit)) {
	for at := range len(s) + 1 {
		for cut := range len(s) - at + 1 {
			for _, put := range puts {
				f(api.Edit{At: at, Cut: cut, Put: put})
			}
		}
	}
}

// wrongEdits returns edits that are not applicable to a string of n bytes.
func wrongEdits(n int) []api.Edit {
	var l []api.Edit
	for _, x := range [][2]int{
		{-1, 0}, {-1, 1}, {-1, n + 1}, {0, -1}, {1, -1}, {n, -1}, {n + 1, -1}, {n + 2, -2}, {-1, -1}, {-n, n},
		{n + 1, 0}, {n + 1, 1}, {n, 1}, {0, n + 1}, {1, n}, {n / 2, n - n/2 + 1},
		{math.MaxInt, 0}, {0, math.MaxInt}, {1, math.MaxInt}, {n, math.MaxInt}, {math.MaxInt, 1}, {math.MaxInt, math.MaxInt},
		{math.MinInt, 0}, {0, math.MinInt}, {math.MinInt, math.MinInt}, {math.MinInt, math.MaxInt}, {math.MaxInt, math.MinInt}, {math.MinInt + 1, math.MaxInt},
		{1 << 32, 0}, {0, 1 << 32}, {1<<63 - 2, 2}, {1<<62 + 1, 1 << 62}, {-1 << 32, 1 << 32},
	} {
		if at, cut := x[0], x[1]; at < 0 || cut < 0 || at > n || cut > n || at+cut > n {
			l = append(l, api.Edit{At: at, Cut: cut}, api.Edit{At: at, Cut: cut, Put: "\n"}, api.Edit{At: at, Cut: cut, Put: "xyz"})
		}
	}
	return l
}

// applied returns what e makes of s, as the definition has it: byte by byte.
func applied(s string, e api.Edit) string {
	b := []byte{}
	for i := range len(s) {
		if i == e.At {
			b = append(b, e.Put...)
		}
		if i < e.At || i >= e.At+e.Cut {
			b = append(b, s[i])
		}
	}
	if e.At == len(s) {
		b = append(b, e.Put...)
	}
	return string(b)
}

// editOf returns the edit from a to b, as the definition has it.
func editOf(a, b string) api.Edit {
	at := min(len(a), len(b))
	for !strings.HasPrefix(b, a[:at]) {
		at--
	}
	x, y := a[at:], b[at:]
	end := min(len(x), len(y))
	for !strings.HasSuffix(y, x[len(x)-end:]) {
		end--
	}
	return api.Edit{At: at, Cut: len(x) - end, Put: y[:len(y)-end]}
}

// apply returns what Apply returns, and fails if there is an error.
func apply(t *testing.T, s string, e api.Edit) string {
	t.Helper()
	got, err := edit.Apply(s, e)
	if err != api.OK {
		t.Fatalf("Apply(%d bytes, %v): %v", len(s), e, err)
	}
	return got
}

// back returns what Back returns, and fails if there is an error.
func back(t *testing.T, s string, e api.Edit) api.Edit {
	t.Helper()
	got, err := edit.Back(s, e)
	if err != api.OK {
		t.Fatalf("Back(%d bytes, %v): %v", len(s), e, err)
	}
	return got
}

// margin returns what Margin returns, and fails if there is an error.
func margin(t *testing.T, c api.Cutter, s string, e api.Edit) (first, last int) {
	t.Helper()
	first, last, err := edit.Margin(c, s, e)
	if err != api.OK {
		t.Fatalf("Margin(%v, %d bytes, %v): %v", c, len(s), e, err)
	}
	return first, last
}

// pieces returns the aligned pieces of s.
func pieces(t *testing.T, c api.Cutter, s string) []api.Piece {
	t.Helper()
	l, e := lines.Cut(c, s)
	if e != api.OK {
		t.Fatalf("lines.Cut(%v, %d bytes): %v", c, len(s), e)
	}
	return l
}

// texts returns the strings of the aligned pieces of s.
func texts(t *testing.T, c api.Cutter, s string) []string {
	t.Helper()
	l, e := lines.Texts(c, s)
	if e != api.OK {
		t.Fatalf("lines.Texts(%v, %d bytes): %v", c, len(s), e)
	}
	return l
}

// marginOf returns the margin, as the definition has it.
func marginOf(t *testing.T, c api.Cutter, s string, e api.Edit) (first, last int) {
	t.Helper()
	now := applied(s, e)
	old, cut := pieces(t, c, s), pieces(t, c, now)
	bytes := func(s string, p api.Piece) string { return s[p.At : p.At+p.Len] }
	for first < len(old) && first < len(cut) {
		p, q := old[first], cut[first]
		if p != q || bytes(s, p) != bytes(now, q) {
			break
		}
		first++
	}
	last = len(cut)
	for i := len(old); i > first && last > first; i-- {
		p, q := old[i-1], cut[last-1]
		if p.Len != q.Len || len(s)-p.At != len(now)-q.At || bytes(s, p) != bytes(now, q) {
			break
		}
		last--
	}
	return first, last
}

// The chapter's examples.
func TestExamples(t *testing.T) {
	if e := edit.Of("abcd", "aXd"); e != (api.Edit{At: 1, Cut: 2, Put: "X"}) {
		t.Errorf("Of: %v", e)
	}
	if s, e := edit.Apply("abcd", api.Edit{At: 4, Cut: 1}); s != "" || e != api.ErrArg {
		t.Errorf("Apply: %q, %v", s, e)
	}
	if l := edit.Fresh([]string{"a", "b"}, []string{"b", "c", "a"}); !slices.Equal(l, []int{1}) {
		t.Errorf("Fresh: %v", l)
	}
}

// P11.1, P11.3: each edit of all short strings; what Back returns restores them.
func TestApplyShort(t *testing.T) {
	puts := []string{"", "b", "ab", "\n", "a\na"}
	for _, s := range shortTexts(6) {
		eachEdit(s, puts, func(e api.Edit) {
			now := apply(t, s, e)
			if want := applied(s, e); now != want {
				t.Fatalf("Apply(%q, %v): %q, not %q", s, e, now, want)
			}
			r := back(t, s, e)
			if want := (api.Edit{At: e.At, Cut: len(e.Put), Put: s[e.At : e.At+e.Cut]}); r != want {
				t.Fatalf("Back(%q, %v): %v, not %v", s, e, r, want)
			}
			if old := apply(t, now, r); old != s {
				t.Fatalf("%v of %q does not restore %q", r, now, s)
			}
		})
	}
}

// P11.1: bytes are removed and inserted, not characters; At and Cut may reach right to the end.
func TestApplyEdges(t *testing.T) {
	for _, x := range []struct {
		s    string
		e    api.Edit
		now  string
		back api.Edit
	}{
		{"", api.Edit{}, "", api.Edit{}},
		{"", api.Edit{Put: "a"}, "a", api.Edit{Cut: 1}},
		{"abc", api.Edit{}, "abc", api.Edit{}},
		{"abc", api.Edit{At: 3}, "abc", api.Edit{At: 3}},
		{"abc", api.Edit{At: 3, Put: "d"}, "abcd", api.Edit{At: 3, Cut: 1}},
		{"abc", api.Edit{Cut: 3}, "", api.Edit{Put: "abc"}},
		{"abc", api.Edit{Cut: 3, Put: "abc"}, "abc", api.Edit{Cut: 3, Put: "abc"}},
		{"abc", api.Edit{At: 2, Cut: 1}, "ab", api.Edit{At: 2, Put: "c"}},
		{"abc", api.Edit{At: 1, Cut: 1, Put: "bb"}, "abbc", api.Edit{At: 1, Cut: 2, Put: "b"}},
		{"\u00e9", api.Edit{At: 1, Cut: 1, Put: "\xa8"}, "\u00e8", api.Edit{At: 1, Cut: 1, Put: "\xa9"}},
		{"\u00e9", api.Edit{Cut: 1}, "\xa9", api.Edit{Put: "\xc3"}},
		{"\x00\xff\x00", api.Edit{At: 1, Put: "\x00\xfe"}, "\x00\x00\xfe\xff\x00", api.Edit{At: 1, Cut: 2}},
	} {
		if now := apply(t, x.s, x.e); now != x.now {
			t.Errorf("Apply(%q, %v): %q, not %q", x.s, x.e, now, x.now)
		}
		if b := back(t, x.s, x.e); b != x.back {
			t.Errorf("Back(%q, %v): %v, not %v", x.s, x.e, b, x.back)
		}
	}
}

// P11.1, P11.2, R2: what is not applicable is ErrArg, with nothing beside it, however great the numbers are.
func TestWrongEdits(t *testing.T) {
	for _, s := range []string{"", "a", "\n", "ab", "a\nb\nc\n", strings.Repeat("abc\n", 100)} {
		for _, e := range wrongEdits(len(s)) {
			if now, err := edit.Apply(s, e); now != "" || err != api.ErrArg {
				t.Errorf("Apply(%d bytes, %v): %q, %v", len(s), e, now, err)
			}
			if b, err := edit.Back(s, e); b != (api.Edit{}) || err != api.ErrArg {
				t.Errorf("Back(%d bytes, %v): %v, %v", len(s), e, b, err)
			}
			for _, c := range append(wrongCutters(), rightCutters()...) {
				if first, last, err := edit.Margin(c, s, e); first != 0 || last != 0 || err != api.ErrArg {
					t.Errorf("Margin(%v, %d bytes, %v): %d, %d, %v", c, len(s), e, first, last, err)
				}
			}
		}
	}
}

// P11.1: the prefix is the longest one, and the suffix that of what it leaves.
func TestOfEdges(t *testing.T) {
	for _, x := range []struct {
		a, b string
		e    api.Edit
	}{
		{"", "", api.Edit{}},
		{"", "ab", api.Edit{Put: "ab"}},
		{"ab", "", api.Edit{Cut: 2}},
		{"ab", "ab", api.Edit{At: 2}},
		{"ab", "cd", api.Edit{Cut: 2, Put: "cd"}},
		{"ab", "cb", api.Edit{Cut: 1, Put: "c"}},
		{"ab", "ac", api.Edit{At: 1, Cut: 1, Put: "c"}},
		{"aa", "aaa", api.Edit{At: 2, Put: "a"}},
		{"aaa", "aa", api.Edit{At: 2, Cut: 1}},
		{"abab", "ab", api.Edit{At: 2, Cut: 2}},
		{"ab", "abab", api.Edit{At: 2, Put: "ab"}},
		{"aba", "abcaba", api.Edit{At: 2, Put: "cab"}},
		{"abcaba", "aba", api.Edit{At: 2, Cut: 3}},
		{"\u00e9", "\u00e8", api.Edit{At: 1, Cut: 1, Put: "\xa8"}},
		{"\u00e9", "\u0129", api.Edit{Cut: 1, Put: "\xc4"}},
		{"a\x00b", "a\xffb", api.Edit{At: 1, Cut: 1, Put: "\xff"}},
	} {
		if e := edit.Of(x.a, x.b); e != x.e {
			t.Errorf("Of(%q, %q): %v, not %v", x.a, x.b, e, x.e)
		}
	}
}

// P11.1, P11.3: all pairs of short strings; the edit from one to the other makes it of it, and back.
func TestOfShort(t *testing.T) {
	all := shortTexts(6)
	for _, a := range all {
		for _, b := range all {
			e := edit.Of(a, b)
			if want := editOf(a, b); e != want {
				t.Fatalf("Of(%q, %q): %v, not %v", a, b, e, want)
			}
			if got := apply(t, a, e); got != b {
				t.Fatalf("%v of %q is %q, not %q", e, a, got, b)
			}
			if got := apply(t, b, back(t, a, e)); got != a {
				t.Fatalf("Back(%q, %v) makes %q of %q", a, e, got, b)
			}
		}
	}
}

// P11.1, P11.3: strings of any bytes, that differ in one place, or in several.
func TestOfRandom(t *testing.T) {
	r := rand.New(rand.NewPCG(11, 1))
	for range 2000 {
		kinds, every := 1+r.IntN(256), 1+r.IntN(100)
		a := text(r, r.IntN(500), kinds, every)
		b := a
		for range r.IntN(4) {
			b = applied(b, change(r, b, kinds, every))
		}
		e := edit.Of(a, b)
		if want := editOf(a, b); e != want {
			t.Fatalf("Of(%q, %q): %v, not %v", a, b, e, want)
		}
		if apply(t, a, e) != b || apply(t, b, back(t, a, e)) != a {
			t.Fatalf("Of(%q, %q): %v is not the one from one to the other, or not restored", a, b, e)
		}
	}
}

// P11.2: what the other list has, even once, is not fresh, however often it stands here; all else is, each time.
func TestFreshEdges(t *testing.T) {
	for _, x := range []struct {
		old, now []string
		l        []int
	}{
		{nil, nil, nil},
		{[]string{}, []string{}, nil},
		{[]string{"a"}, nil, nil},
		{nil, []string{"a"}, []int{0}},
		{nil, []string{"a", "a", ""}, []int{0, 1, 2}},
		{[]string{""}, []string{"", "a"}, []int{1}},
		{[]string{"a"}, []string{"a", "a", "a"}, nil},
		{[]string{"a", "a"}, []string{"a"}, nil},
		{[]string{"a", "a"}, []string{"b", "a", "b"}, []int{0, 2}},
		{[]string{"a", "b", "c"}, []string{"c", "b", "a"}, nil},
		{[]string{"ab", "c"}, []string{"a", "bc", "abc", "ab"}, []int{0, 1, 2}},
		{[]string{"a"}, []string{"a\x00", "A", "\xff", "a"}, []int{0, 1, 2}},
	} {
		if l := edit.Fresh(x.old, x.now); !slices.Equal(l, x.l) {
			t.Errorf("Fresh(%q, %q): %v, not %v", x.old, x.now, l, x.l)
		}
	}
}

// P11.2: lists of any length, with many strings alike, and with few.
func TestFreshRandom(t *testing.T) {
	r := rand.New(rand.NewPCG(11, 2))
	list := func(kinds int) []string {
		l := make([]string, r.IntN(100))
		for i := range l {
			l[i] = text(r, r.IntN(4), kinds, 5)
		}
		return l
	}
	for range 2000 {
		kinds := 1 + r.IntN(10)
		old, now := list(kinds), list(kinds)
		var want []int
		for i, t := range now {
			if !slices.Contains(old, t) {
				want = append(want, i)
			}
		}
		if l := edit.Fresh(old, now); !slices.Equal(l, want) {
			t.Fatalf("Fresh(%q, %q): %v, not %v", old, now, l, want)
		}
	}
}

// P11.2, R2: a cutter that is not valid is ErrArg, with nothing beside it, even for an empty string.
func TestWrongCutters(t *testing.T) {
	for _, c := range wrongCutters() {
		for _, s := range []string{"", "a", "a\nb\n", strings.Repeat("abc\n", 50)} {
			for _, e := range []api.Edit{{}, {Put: "\n"}, {At: len(s)}, {At: len(s), Put: "a\n"}, {Cut: len(s)}} {
				if first, last, err := edit.Margin(c, s, e); first != 0 || last != 0 || err != api.ErrArg {
					t.Errorf("Margin(%v, %q, %v): %d, %d, %v", c, s, e, first, last, err)
				}
			}
		}
	}
}

// P11.2: where pieces are records; no piece counts at both ends, of neither string.
func TestMarginEdges(t *testing.T) {
	for _, x := range []struct {
		s           string
		e           api.Edit
		first, last int
	}{
		{"", api.Edit{}, 0, 0},
		{"", api.Edit{Put: "a"}, 0, 1},
		{"", api.Edit{Put: "a\nb\n"}, 0, 2},
		{"a\nb\n", api.Edit{Cut: 4}, 0, 0},
		{"a\nb\n", api.Edit{}, 2, 2},
		{"a\nb\n", api.Edit{At: 4}, 2, 2},
		{"a\nb\n", api.Edit{At: 1, Cut: 2, Put: "\nb"}, 2, 2},
		{"a\nb\n", api.Edit{At: 2, Cut: 1, Put: "b"}, 2, 2},
		{"a\nb\nc\n", api.Edit{At: 2, Cut: 1, Put: "x"}, 1, 2},
		{"a\nb\nc\n", api.Edit{At: 2, Put: "x"}, 1, 2},
		{"a\nb\nc\n", api.Edit{At: 2, Put: "x\n"}, 1, 2},
		{"a\nb\nc\n", api.Edit{At: 2, Put: "x\ny"}, 1, 3},
		{"a\nb\nc\n", api.Edit{At: 2, Cut: 2}, 1, 1},
		{"a\nb\nc\n", api.Edit{At: 1, Cut: 1}, 0, 1},
		{"a\nb\nc\n", api.Edit{At: 3, Cut: 2}, 2, 2},
		{"a\nb\nc\n", api.Edit{At: 3, Cut: 1}, 1, 2},
		{"a\nb\nc\n", api.Edit{Cut: 2}, 0, 0},
		{"a\nb\nc\n", api.Edit{At: 4, Cut: 2}, 2, 2},
		{"a\nb\nc\n", api.Edit{At: 5, Cut: 1}, 2, 3},
		{"a\nb\nc\n", api.Edit{At: 6, Put: "d"}, 3, 4},
		{"a\nb\nc", api.Edit{At: 5, Put: "d"}, 2, 3},
		{"a\nb\nc\n", api.Edit{Put: "x"}, 0, 1},
		{"a\nb\nc\n", api.Edit{Cut: 6, Put: "x\ny\nc\n"}, 0, 2},
		{"a\nb\nc\n", api.Edit{Cut: 6, Put: "b\na\nc\n"}, 0, 2},
		{"a\nb\nc\n", api.Edit{Cut: 6, Put: "c\na\nb\n"}, 0, 3},
		{"a\nb\nc\n", api.Edit{Cut: 6, Put: "aa\nb\nd\n"}, 0, 3},
		{"a\nb\nc\n", api.Edit{At: 2, Cut: 2, Put: "bb\ncc\n"}, 1, 3},
		{"a\n", api.Edit{Put: "a\n"}, 1, 2},
		{"a\na\n", api.Edit{Put: "a\na\n"}, 2, 4},
		{"a\na\na\n", api.Edit{Cut: 2}, 2, 2},
		{"a\nb\na\n", api.Edit{Cut: 4}, 1, 1},
		{"a\nb\na\n", api.Edit{At: 2, Cut: 4}, 1, 1},
		{"a\nb\na\n", api.Edit{At: 2, Cut: 2}, 1, 1},
		{"a\nb\n", api.Edit{At: 4, Put: "a\nb\n"}, 2, 4},
		{"a\nb\n", api.Edit{At: 2, Put: "b\na\n"}, 2, 4},
		{"a\nb\n", api.Edit{At: 2, Put: "c\na\n"}, 1, 3},
	} {
		if first, last := margin(t, each, x.s, x.e); first != x.first || last != x.last {
			t.Errorf("Margin(%q, %v): %d, %d, not %d, %d", x.s, x.e, first, last, x.first, x.last)
		}
	}
}

// marginAs fails unless Margin returns what the definition has, and what P11.3 says holds.
func marginAs(t *testing.T, c api.Cutter, s string, e api.Edit) {
	t.Helper()
	first, last := margin(t, c, s, e)
	if x, y := marginOf(t, c, s, e); first != x || last != y {
		t.Fatalf("Margin(%v, %q, %v): %d, %d, not %d, %d", c, s, e, first, last, x, y)
	}
	old, now := texts(t, c, s), texts(t, c, applied(s, e))
	if first < 0 || first > last || last > len(now) {
		t.Fatalf("Margin(%v, %q, %v): %d, %d, of %d pieces", c, s, e, first, last, len(now))
	}
	for _, i := range edit.Fresh(old, now) {
		if i < first || i >= last {
			t.Fatalf("Margin(%v, %q, %v): %d, %d, but piece %d is fresh", c, s, e, first, last, i)
		}
	}
	for i, x := range now {
		if (i < first || i >= last) && !slices.Contains(old, x) {
			t.Fatalf("Margin(%v, %q, %v): %d, %d, but piece %d is none of those before it", c, s, e, first, last, i)
		}
	}
	ahead := 0
	for i, p := range pieces(t, c, s) {
		if i < len(old)-1 && p.At+p.Len <= e.At {
			ahead++
		}
	}
	if ahead > first {
		t.Fatalf("Margin(%v, %q, %v): %d, %d, but %d pieces end up to there", c, s, e, first, last, ahead)
	}
}

// P11.2, P11.3: each edit of all short strings, with each of some cutters.
func TestMarginShort(t *testing.T) {
	puts := []string{"", "a", "\n", "a\n", "\na", "b\na\n"}
	for _, s := range shortTexts(5) {
		eachEdit(s, puts, func(e api.Edit) {
			for _, c := range rightCutters() {
				marginAs(t, c, s, e)
			}
		})
	}
}

// P11.2, P11.3: random cutters, strings and edits, with many bytes and records alike, and with few.
func TestMarginRandom(t *testing.T) {
	r := rand.New(rand.NewPCG(11, 3))
	for range 3000 {
		c := cutter(r)
		kinds, every := []int{1, 2, 256}[r.IntN(3)], 1+r.IntN(30)
		s := text(r, r.IntN(1000), kinds, every)
		marginAs(t, c, s, change(r, s, kinds, every))
	}
}

// W3: the margin of an edit in the middle of a long string has few of its pieces.
func TestMarginSmall(t *testing.T) {
	r := rand.New(rand.NewPCG(11, 4))
	c := api.Cutter{Poly: 1<<53 | 1<<6 | 1<<2 | 1<<1 | 1, Window: 16, Min: 20, Max: 400, Bits: 5}
	for range 50 {
		s := text(r, 50_000, 256, 10)
		e := change(r, s, 256, 10)
		first, last := margin(t, c, s, e)
		if all := len(texts(t, c, s)); all < 500 || last-first > 50 {
			t.Errorf("Margin: %d, %d, of %d pieces", first, last, all)
		}
	}
}

// R1: long strings and lists are gone over once, not once for each of their parts.
func TestLong(t *testing.T) {
	const n = 1 << 20
	s := strings.Repeat("a\n", n)
	many := strings.SplitAfter(strings.Repeat("a\n", n/2)+strings.Repeat("b\n", n/2), "\n")
	done := make(chan struct{})
	go func() {
		defer close(done)
		if e := edit.Of(s, s+s); e != (api.Edit{At: 2 * n, Put: s}) {
			t.Errorf("Of: %d, %d, %d bytes", e.At, e.Cut, len(e.Put))
		}
		if l := edit.Fresh(many, append(many, "c")); !slices.Equal(l, []int{n + 1}) {
			t.Errorf("Fresh: %d", len(l))
		}
		if first, last, e := edit.Margin(each, s, api.Edit{At: n, Cut: 1, Put: "b"}); first != n/2 || last != n/2+1 || e != api.OK {
			t.Errorf("Margin: %d, %d, %v", first, last, e)
		}
	}()
	select {
	case <-done:
	case <-time.After(40 * time.Second):
		t.Error("strings of 2 MiB take too long")
	}
}

// within tells whether the memory of part is a part of that of s.
func within(s, part string) bool {
	at, first := uintptr(unsafe.Pointer(unsafe.StringData(part))), uintptr(unsafe.Pointer(unsafe.StringData(s)))
	return len(part) > 0 && at >= first && at < first+uintptr(len(s))
}

// R5: what is returned is new memory, even if it is all of an argument.
func TestApart(t *testing.T) {
	s, put := strings.Repeat("a\nb", 10), strings.Repeat("c\n", 10)
	for _, e := range []api.Edit{{}, {At: 30}, {At: 5}, {Cut: 30}, {At: 3, Cut: 20}, {Put: put}, {Cut: 30, Put: put}, {At: 3, Cut: 20, Put: put}} {
		if now := apply(t, s, e); within(s, now) || within(put, now) {
			t.Errorf("Apply(%v): a part of an argument", e)
		}
		if b := back(t, s, e); within(s, b.Put) || within(put, b.Put) {
			t.Errorf("Back(%v): a part of an argument", e)
		}
		b := applied(s, e)
		if o := edit.Of(s, b); within(s, o.Put) || within(b, o.Put) {
			t.Errorf("Of, of %v: a part of an argument", e)
		}
	}
	if e := edit.Of("", s); e.Put != s || within(s, e.Put) {
		t.Error("Of: all of an argument")
	}
}

// R5, R6: arguments stay as they are, and each call returns the same, whatever was done with the results before.
func TestSame(t *testing.T) {
	old, now := []string{"a", "b"}, []string{"c", "b", "d", "c"}
	want := []int{0, 2, 3}
	for range 3 {
		l := edit.Fresh(old, now)
		if !slices.Equal(l, want) {
			t.Fatalf("Fresh: %v", l)
		}
		clear(l)
		edit.Fresh(now, old)
		if !slices.Equal(old, []string{"a", "b"}) || !slices.Equal(now, []string{"c", "b", "d", "c"}) {
			t.Fatalf("Fresh changes %q, or %q", old, now)
		}
		if first, last := margin(t, each, "a\nb\nc\n", api.Edit{At: 2, Cut: 1, Put: "x"}); first != 1 || last != 2 {
			t.Fatalf("Margin: %d, %d", first, last)
		}
		margin(t, rightCutters()[2], "other\ntext", api.Edit{})
	}
}
