package chunk_test

import (
	"math"
	"math/bits"
	"math/rand/v2"
	"slices"
	"strings"
	"testing"

	"maslin/api"
	"maslin/chunk"
	"maslin/rabin"
)

const (
	minDeg  = 8
	maxBits = 16
)

// fingerprint returns that of s for p, of degree d, as the definition has it: s as a row of coefficients, the highest first, is divided step by step.
func fingerprint(p uint64, s string) uint64 {
	d := bits.Len64(p) - 1
	row := make([]byte, 8*len(s))
	for i := range row {
		row[i] = s[i/8] >> (7 - i%8) & 1
	}
	for i := 0; i+d < len(row); i++ {
		if row[i] == 1 {
			for j := range d + 1 {
				row[i+j] ^= byte(p >> (d - j) & 1)
			}
		}
	}
	rest := uint64(0)
	for _, c := range row {
		rest = rest<<1 | uint64(c)
	}
	return rest
}

// marked tells of each position of s, from 0 to its length, whether it is a mark, as the definition has it.
func marked(c api.Cutter, s string) []bool {
	l := make([]bool, len(s)+1)
	padded := strings.Repeat("\x00", c.Window) + s
	for i := 1; i <= len(s); i++ {
		f := fingerprint(c.Poly, padded[i:i+c.Window])
		l[i] = f%(1<<c.Bits) == 1<<c.Bits-1
	}
	return l
}

// marksOf returns the marks of s, as the definition has them.
func marksOf(c api.Cutter, s string) []int {
	var l []int
	for i, is := range marked(c, s) {
		if is {
			l = append(l, i)
		}
	}
	return l
}

// cutsOf returns the cuts of a string of n bytes with such marks, as the definition has them.
func cutsOf(c api.Cutter, n int, marks []int) []int {
	var l []int
	at := 0
	for at < n {
		next := at + c.Max
		for _, m := range marks {
			if m >= at+c.Min {
				next = min(next, m)
				break
			}
		}
		at = min(next, n)
		l = append(l, at)
	}
	return l
}

// text returns n random bytes.
func text(r *rand.Rand, n int) string {
	b := make([]byte, n)
	for i := range b {
		b[i] = byte(r.Uint32())
	}
	return string(b)
}

// ofDegree returns a random polynomial of degree d.
func ofDegree(r *rand.Rand, d int) uint64 {
	return 1<<d | r.Uint64()&(1<<d-1)
}

// cutter returns a random valid cutter, with pieces of few bytes.
func cutter(r *rand.Rand) api.Cutter {
	window := 1 + r.IntN([]int{3, 10, api.MaxWindow}[r.IntN(3)])
	least := window + r.IntN(8)*r.IntN(4)
	return api.Cutter{
		Poly:   ofDegree(r, minDeg+r.IntN(api.MaxDeg-minDeg+1)),
		Window: window,
		Min:    least,
		Max:    least + r.IntN(20)*r.IntN(4),
		Bits:   r.IntN(7),
	}
}

// some is a valid cutter, of which tests change one part.
var some = api.Cutter{Poly: 1<<53 | 1<<6 | 1<<2 | 1<<1 | 1, Window: 16, Min: 20, Max: 80, Bits: 4}

// with returns some, changed.
func with(change func(c *api.Cutter)) api.Cutter {
	c := some
	change(&c)
	return c
}

// wrongCutters returns cutters that are not valid, each by one part alone, but for the last ones.
func wrongCutters() []api.Cutter {
	var l []api.Cutter
	put := func(change func(c *api.Cutter)) { l = append(l, with(change)) }
	for _, p := range []uint64{0, 1, 255, 1<<57 | 1, 1 << 63, math.MaxUint64} {
		put(func(c *api.Cutter) { c.Poly = p })
	}
	for _, n := range []int{0, -1, -64, math.MinInt, math.MinInt32} {
		put(func(c *api.Cutter) { c.Window = n })
		put(func(c *api.Cutter) { c.Window, c.Min = 1, n })
		put(func(c *api.Cutter) { c.Window, c.Min, c.Max = 1, 1, n })
		put(func(c *api.Cutter) { c.Window, c.Min = n, n })
		put(func(c *api.Cutter) { c.Window, c.Min, c.Max = n, n, n })
		if n != 0 {
			put(func(c *api.Cutter) { c.Bits = n })
		}
	}
	for _, n := range []int{api.MaxWindow + 1, 200, 1 << 32, 1<<32 + 16, math.MaxInt} {
		put(func(c *api.Cutter) { c.Window = n })
		put(func(c *api.Cutter) { c.Window, c.Min, c.Max = n, n, n })
		put(func(c *api.Cutter) { c.Window, c.Min, c.Max = n, n, api.MaxPiece })
	}
	for _, n := range []int{some.Window - 1, 1, some.Max + 1, api.MaxPiece, 1<<32 + 20, math.MaxInt} {
		put(func(c *api.Cutter) { c.Min = n })
	}
	for _, n := range []int{some.Min - 1, some.Window, 1, api.MaxPiece + 1, 1<<32 + 80, math.MaxInt} {
		put(func(c *api.Cutter) { c.Max = n })
	}
	for _, n := range []int{maxBits + 1, maxBits + 2, 32, 63, 64, 1<<32 + 4, math.MaxInt} {
		put(func(c *api.Cutter) { c.Bits = n })
	}
	put(func(c *api.Cutter) { c.Min, c.Max = api.MaxPiece+1, api.MaxPiece+1 })
	return append(l, api.Cutter{}, api.Cutter{Poly: 283, Bits: 3})
}

// rightCutters returns valid cutters, at each edge.
func rightCutters() []api.Cutter {
	var l []api.Cutter
	put := func(change func(c *api.Cutter)) { l = append(l, with(change)) }
	for _, p := range []uint64{256, 257, 283, 511, 512, 1 << 56, 1<<57 - 1} {
		put(func(c *api.Cutter) { c.Poly = p })
	}
	for n := 1; n <= api.MaxWindow; n++ {
		put(func(c *api.Cutter) { c.Window, c.Min, c.Max = n, n, n })
		put(func(c *api.Cutter) { c.Window, c.Min, c.Max = n, n, api.MaxPiece })
		put(func(c *api.Cutter) { c.Window, c.Min, c.Max = n, api.MaxPiece, api.MaxPiece })
	}
	for n := some.Window; n <= some.Max; n++ {
		put(func(c *api.Cutter) { c.Min = n })
	}
	for n := some.Min; n <= api.MaxPiece; n++ {
		put(func(c *api.Cutter) { c.Max = n })
	}
	for n := range maxBits + 1 {
		put(func(c *api.Cutter) { c.Bits = n })
	}
	return l
}

// marks returns those of Marks, and fails if there is an error.
func marks(t *testing.T, c api.Cutter, s string) []int {
	t.Helper()
	l, e := chunk.Marks(c, s)
	if e != api.OK {
		t.Fatalf("Marks(%v, %d bytes): %v", c, len(s), e)
	}
	return l
}

// cuts returns where the pieces end that Cut returns, and fails if they do not follow one another from 0 on, or there is an error.
func cuts(t *testing.T, c api.Cutter, s string) []int {
	t.Helper()
	l, e := chunk.Cut(c, s)
	if e != api.OK {
		t.Fatalf("Cut(%v, %d bytes): %v", c, len(s), e)
	}
	var ends []int
	at := 0
	for i, p := range l {
		if p.At != at {
			t.Fatalf("Cut(%v, %d bytes): piece %d at %d, not %d", c, len(s), i, p.At, at)
		}
		at += p.Len
		ends = append(ends, at)
	}
	return ends
}

// texts returns those of Texts, and fails if there is an error.
func texts(t *testing.T, c api.Cutter, s string) []string {
	t.Helper()
	l, e := chunk.Texts(c, s)
	if e != api.OK {
		t.Fatalf("Texts(%v, %d bytes): %v", c, len(s), e)
	}
	return l
}

// most returns that of Most, and fails if there is an error.
func most(t *testing.T, c api.Cutter, n int) int {
	t.Helper()
	m, e := chunk.Most(c, n)
	if e != api.OK {
		t.Fatalf("Most(%v, %d): %v", c, n, e)
	}
	return m
}

// cutAs fails unless Marks, Cut and Texts return what follows from these marks.
func cutAs(t *testing.T, c api.Cutter, s string, want []int) {
	t.Helper()
	if got := marks(t, c, s); !slices.Equal(got, want) {
		t.Fatalf("Marks(%v, %q): %v, not %v", c, s, got, want)
	}
	ends := cutsOf(c, len(s), want)
	if got := cuts(t, c, s); !slices.Equal(got, ends) {
		t.Fatalf("Cut(%v, %q): ends %v, not %v", c, s, got, ends)
	}
	var parts []string
	at := 0
	for _, end := range ends {
		parts = append(parts, s[at:end])
		at = end
	}
	if got := texts(t, c, s); !slices.Equal(got, parts) {
		t.Fatalf("Texts(%v, %q): %q, not %q", c, s, got, parts)
	}
}

// The chapter's examples.
func TestExamples(t *testing.T) {
	c := api.Cutter{Poly: 283, Window: 2, Min: 2, Max: 4}
	if got := marks(t, c, "abcde"); !slices.Equal(got, []int{1, 2, 3, 4, 5}) {
		t.Errorf("Marks: %v", got)
	}
	if got := texts(t, c, "abcde"); !slices.Equal(got, []string{"ab", "cd", "e"}) {
		t.Errorf("Texts: %q", got)
	}
	c = api.Cutter{Poly: 283, Window: 2, Min: 2, Max: 3, Bits: 16}
	if got := marks(t, c, "\x00\x00\x00\x00\x00\x00"); len(got) > 0 {
		t.Errorf("Marks: %v", got)
	}
	if got := cuts(t, c, "\x00\x00\x00\x00\x00\x00"); !slices.Equal(got, []int{3, 6}) {
		t.Errorf("Cut: ends %v", got)
	}
}

// P9.1: each part of a cutter, from one edge to the other, and beyond.
func TestCheck(t *testing.T) {
	for _, c := range rightCutters() {
		if e := chunk.Check(c); e != api.OK {
			t.Errorf("Check(%v): %v", c, e)
		}
	}
	for _, c := range wrongCutters() {
		if e := chunk.Check(c); e != api.ErrArg {
			t.Errorf("Check(%v): %v", c, e)
		}
	}
}

// P9.1, P9.2, R2: what is not valid is ErrArg, with nothing beside it, even for an empty string.
func TestWrongCutters(t *testing.T) {
	for _, c := range wrongCutters() {
		for _, s := range []string{"", "a", strings.Repeat("abc", 50)} {
			if l, e := chunk.Marks(c, s); len(l) > 0 || e != api.ErrArg {
				t.Errorf("Marks(%v, %d bytes): %v, %v", c, len(s), l, e)
			}
			if l, e := chunk.Cut(c, s); len(l) > 0 || e != api.ErrArg {
				t.Errorf("Cut(%v, %d bytes): %v, %v", c, len(s), l, e)
			}
			if l, e := chunk.Texts(c, s); len(l) > 0 || e != api.ErrArg {
				t.Errorf("Texts(%v, %d bytes): %v, %v", c, len(s), l, e)
			}
		}
		for _, n := range []int{0, 1, 1000, -1, math.MinInt, math.MaxInt} {
			if m, e := chunk.Most(c, n); m != 0 || e != api.ErrArg {
				t.Errorf("Most(%v, %d): %d, %v", c, n, m, e)
			}
		}
	}
}

// P9.1, P9.2: an empty string has no mark and no piece, with any cutter.
func TestEmpty(t *testing.T) {
	for _, c := range rightCutters() {
		if got := marks(t, c, ""); len(got) > 0 {
			t.Errorf("Marks(%v, no byte): %v", c, got)
		}
		if got := cuts(t, c, ""); len(got) > 0 {
			t.Errorf("Cut(%v, no byte): ends %v", c, got)
		}
		if got := texts(t, c, ""); len(got) > 0 {
			t.Errorf("Texts(%v, no byte): %q", c, got)
		}
		if got := most(t, c, 0); got != 0 {
			t.Errorf("Most(%v, 0): %d", c, got)
		}
	}
}

// P9.1: with no bit each position is a mark, whatever the string is.
func TestMarksEach(t *testing.T) {
	r := rand.New(rand.NewPCG(9, 1))
	for range 200 {
		c := cutter(r)
		c.Bits = 0
		s := text(r, r.IntN(200))
		got := marks(t, c, s)
		for i, m := range got {
			if m != i+1 {
				t.Fatalf("Marks(%v, %q): %v", c, s, got)
			}
		}
		if len(got) != len(s) {
			t.Fatalf("Marks(%v, %d bytes): %d", c, len(s), len(got))
		}
	}
}

// P9.1: bytes 0 stand before the first ones: a first byte is a mark by itself, in each window.
func TestMarksFirst(t *testing.T) {
	for window := 1; window <= api.MaxWindow; window++ {
		c := with(func(c *api.Cutter) { c.Window, c.Min, c.Max, c.Bits = window, window, window, 3 })
		for b := range 256 {
			got := marks(t, c, string([]byte{byte(b)}))
			if want := b%8 == 7; (len(got) == 1 && got[0] == 1) != want || len(got) > 1 {
				t.Errorf("Marks(window %d, the byte %d): %v", window, b, got)
			}
		}
	}
}

// P9.1: the lowest bits count, each of them, and no other ones.
func TestMarksBits(t *testing.T) {
	r := rand.New(rand.NewPCG(9, 12))
	for n := range maxBits + 1 {
		c := with(func(c *api.Cutter) { c.Window, c.Bits = 8, n })
		check := func(v uint32, want bool) {
			s := string([]byte{byte(v >> 16), byte(v >> 8), byte(v)})
			if got := marks(t, c, s); slices.Contains(got, 3) != want {
				t.Errorf("Marks(%d bits, %#x): %v", n, v, got)
			}
		}
		for range 50 {
			v := r.Uint32()<<n | 1<<n - 1
			check(v, true)
			for k := range 24 {
				check(v^1<<k, k >= n)
			}
		}
	}
}

// P9.1: more bits than a fingerprint has are never all 1.
func TestMarksNone(t *testing.T) {
	r := rand.New(rand.NewPCG(9, 2))
	for d := minDeg; d <= maxBits; d++ {
		for n := d; n <= maxBits; n++ {
			c := with(func(c *api.Cutter) { c.Poly, c.Bits = ofDegree(r, d), n })
			s := text(r, 2000)
			for _, m := range marks(t, c, s) {
				if n > d || fingerprint(c.Poly, s[max(0, m-c.Window):m]) != 1<<d-1 {
					t.Errorf("Marks(%v): %d", c, m)
				}
			}
		}
	}
}

// P9.1, P9.2: random cutters and strings, of each length up to some pieces.
func TestRandom(t *testing.T) {
	r := rand.New(rand.NewPCG(9, 3))
	for range 1500 {
		c := cutter(r)
		s := text(r, r.IntN(5*c.Max+2))
		if len(s) > 300 {
			s = s[:300]
		}
		cutAs(t, c, s, marksOf(c, s))
	}
}

// P9.2: strings of few different bytes, in which marks are repeated, or wanting.
func TestSame(t *testing.T) {
	r := rand.New(rand.NewPCG(9, 4))
	for range 300 {
		c := cutter(r)
		for _, s := range []string{
			strings.Repeat("\x00", r.IntN(200)),
			strings.Repeat("\xff", r.IntN(200)),
			strings.Repeat("ab\n", r.IntN(60)),
			strings.Repeat("\x00", r.IntN(100)) + text(r, 3) + strings.Repeat("\x00", r.IntN(100)),
		} {
			cutAs(t, c, s, marksOf(c, s))
		}
	}
}

// P9.1, P9.2: bytes are taken as they are, whether or not they are UTF-8.
func TestBytes(t *testing.T) {
	for n := 1; n < 5; n++ {
		c := api.Cutter{Poly: 283, Window: 1, Min: 1, Max: n, Bits: 2}
		for _, s := range []string{"ä€\U0001f600ä€\U0001f600", "\xc3\x28\xff\xfe", "a\x00b\xe2\x82", "\x03\x03\x03"} {
			cutAs(t, c, s, marksOf(c, s))
		}
	}
}

// P9.2: a mark counts from Min to Max behind the last cut, both of them, and the first one that does.
func TestCutEdges(t *testing.T) {
	// The byte 1 makes a mark, the byte 0 makes none.
	c := api.Cutter{Poly: 283, Window: 1, Min: 3, Max: 6, Bits: 1}
	for _, x := range []struct {
		marks []int
		n     int
		ends  []int
	}{
		{nil, 1, []int{1}},
		{nil, 2, []int{2}},
		{nil, 5, []int{5}},
		{nil, 6, []int{6}},
		{nil, 7, []int{6, 7}},
		{nil, 12, []int{6, 12}},
		{nil, 13, []int{6, 12, 13}},
		{[]int{1}, 1, []int{1}},
		{[]int{2}, 2, []int{2}},
		{[]int{2}, 7, []int{6, 7}},
		{[]int{3}, 3, []int{3}},
		{[]int{3}, 4, []int{3, 4}},
		{[]int{2, 3}, 7, []int{3, 7}},
		{[]int{3, 4, 5, 6}, 7, []int{3, 6, 7}},
		{[]int{4, 5}, 9, []int{4, 9}},
		{[]int{6}, 6, []int{6}},
		{[]int{6}, 8, []int{6, 8}},
		{[]int{7}, 7, []int{6, 7}},
		{[]int{7}, 12, []int{6, 12}},
		{[]int{8}, 13, []int{6, 12, 13}},
		{[]int{9}, 13, []int{6, 9, 13}},
		{[]int{3, 5, 6, 9, 11, 12, 13}, 14, []int{3, 6, 9, 12, 14}},
		{[]int{4, 6, 7, 10}, 10, []int{4, 7, 10}},
		{[]int{4, 6, 8}, 16, []int{4, 8, 14, 16}},
	} {
		b := make([]byte, x.n)
		for _, m := range x.marks {
			b[m-1] = 1
		}
		cutAs(t, c, string(b), x.marks)
		if got := cuts(t, c, string(b)); !slices.Equal(got, x.ends) {
			t.Errorf("Cut(%q): ends %v, not %v", b, got, x.ends)
		}
	}
}

// P9.2: Min and Max are the same: each piece has as many bytes, but for the last one.
func TestCutEven(t *testing.T) {
	r := rand.New(rand.NewPCG(9, 5))
	for _, n := range []int{1, 2, 63, 64, 100, api.MaxPiece - 1, api.MaxPiece} {
		for _, bits := range []int{0, 3, maxBits} {
			c := with(func(c *api.Cutter) { c.Window, c.Min, c.Max, c.Bits = min(n, 8), n, n, bits })
			s := text(r, 3*n+n/2)
			var want []int
			for at := n; at < len(s); at += n {
				want = append(want, at)
			}
			want = append(want, len(s))
			if got := cuts(t, c, s); !slices.Equal(got, want) {
				t.Errorf("Cut(%v, %d bytes): ends %v, not %v", c, len(s), got, want)
			}
		}
	}
}

// P9.2: pieces without a mark end at Max, up to MaxPiece.
func TestCutMax(t *testing.T) {
	for _, n := range []int{some.Min, some.Max, 1000, api.MaxPiece - 1, api.MaxPiece} {
		c := with(func(c *api.Cutter) { c.Max = n })
		for _, more := range []int{-1, 0, 1, n} {
			s := strings.Repeat("\x00", 2*n+more)
			if got, want := cuts(t, c, s), cutsOf(c, len(s), nil); !slices.Equal(got, want) {
				t.Errorf("Cut(%v, %d bytes 0): ends %v, not %v", c, len(s), got, want)
			}
		}
	}
}

// P9.1, P9.2: a long string, with pieces as they are used.
func TestLong(t *testing.T) {
	r := rand.New(rand.NewPCG(9, 6))
	s := text(r, 1<<18)
	for _, c := range []api.Cutter{
		{Poly: some.Poly, Window: 48, Min: 64, Max: 1024, Bits: 7},
		{Poly: 1<<57 - 1, Window: api.MaxWindow, Min: api.MaxWindow, Max: api.MaxPiece, Bits: 10},
		{Poly: 283, Window: 2, Min: 30, Max: 300, Bits: 8},
		{Poly: some.Poly, Window: 1, Min: 1, Max: 1, Bits: 16},
	} {
		var want []int
		padded := strings.Repeat("\x00", c.Window) + s
		for i := 1; i <= len(s); i++ {
			if f, _ := rabin.Of(c.Poly, padded[i:i+c.Window]); f&(1<<c.Bits-1) == 1<<c.Bits-1 {
				want = append(want, i)
			}
		}
		if got := marks(t, c, s); !slices.Equal(got, want) {
			t.Errorf("Marks(%v): %d, not %d", c, len(got), len(want))
		}
		isMark := make([]bool, len(s)+1)
		for _, m := range want {
			isMark[m] = true
		}
		at := 0
		for _, end := range cuts(t, c, s) {
			for i := at + 1; i < end; i++ {
				if i >= at+c.Min && isMark[i] {
					t.Fatalf("Cut(%v): %d to %d is no piece", c, at, end)
				}
			}
			if end < len(s) && !(isMark[end] && end >= at+c.Min) && end != at+c.Max {
				t.Fatalf("Cut(%v): %d to %d is no piece", c, at, end)
			}
			at = end
		}
		if at != len(s) {
			t.Errorf("Cut(%v): the last cut is %d", c, at)
		}
	}
}

// P9.2: as many pieces as there may be, and no more; each number of bytes, up to the greatest.
func TestMost(t *testing.T) {
	r := rand.New(rand.NewPCG(9, 7))
	for range 100 {
		c := cutter(r)
		for range 5 {
			s := text(r, r.IntN(6*c.Min))
			n := most(t, c, len(s))
			if got := len(cuts(t, c, s)); got > n {
				t.Errorf("Most(%v, %d): %d, but there are %d pieces", c, len(s), n, got)
			}
			// With no bit there are as many as there may be.
			d := c
			d.Bits = 0
			if got := len(cuts(t, d, s)); got != n {
				t.Errorf("Most(%v, %d): %d, not %d", c, len(s), n, got)
			}
		}
	}
	for _, least := range []int{1, 2, 3, 64, 1000, api.MaxPiece} {
		c := with(func(c *api.Cutter) { c.Window, c.Min, c.Max = 1, least, api.MaxPiece })
		for _, n := range []int{0, 1, least - 1, least, least + 1, 2*least - 1, 2 * least, 2*least + 1, math.MaxInt32, 1 << 32, math.MaxInt - 1, math.MaxInt} {
			want := uint64(n) + uint64(least) - 1
			want /= uint64(least)
			if got := most(t, c, n); uint64(got) != want {
				t.Errorf("Most(%v, %d): %d, not %d", c, n, got, want)
			}
		}
	}
}

// P9.2: no string has a negative number of bytes.
func TestMostWrong(t *testing.T) {
	for _, c := range []api.Cutter{some, {Poly: 283, Window: 1, Min: 1, Max: 1}} {
		for _, n := range []int{-1, -2, -20, -80, math.MinInt32, math.MinInt + 1, math.MinInt} {
			if m, e := chunk.Most(c, n); m != 0 || e != api.ErrArg {
				t.Errorf("Most(%v, %d): %d, %v", c, n, m, e)
			}
		}
	}
}

// P9.3: the pieces are the string, each with at most Max bytes, and at least Min, but for the last one.
func TestPieces(t *testing.T) {
	r := rand.New(rand.NewPCG(9, 8))
	for range 500 {
		c := cutter(r)
		s := text(r, r.IntN(2000))
		l := texts(t, c, s)
		if strings.Join(l, "") != s {
			t.Fatalf("Texts(%v): not the string", c)
		}
		for i, x := range l {
			if len(x) > c.Max || len(x) == 0 || len(x) < c.Min && i < len(l)-1 {
				t.Fatalf("Texts(%v): %d bytes", c, len(x))
			}
		}
	}
}

// after returns those of the cuts that are at least from, counted from there.
func after(ends []int, from int) []int {
	var l []int
	for _, end := range ends {
		if end >= from {
			l = append(l, end-from)
		}
	}
	return l
}

// P9.3: behind a cut that two strings have at one position of a common suffix, all cuts are the same.
func TestSuffix(t *testing.T) {
	r := rand.New(rand.NewPCG(9, 9))
	met := 0
	for range 400 {
		c := cutter(r)
		a, b, end := text(r, r.IntN(100)), text(r, r.IntN(100)), text(r, 1000)
		x, y := after(cuts(t, c, a+end), len(a)), after(cuts(t, c, b+end), len(b))
		for i, at := range x {
			if j := slices.Index(y, at); j >= 0 {
				met++
				if !slices.Equal(x[i:], y[j:]) {
					t.Fatalf("Cut(%v): behind %d: %v and %v", c, at, x[i:], y[j:])
				}
				break
			}
		}
	}
	if met < 300 {
		t.Errorf("only %d pairs of strings have a cut in common", met)
	}
}

// P9.3: cuts within a common prefix are the same, but for the last one of a string.
func TestPrefix(t *testing.T) {
	r := rand.New(rand.NewPCG(9, 10))
	within := func(ends []int, n int) []int {
		if len(ends) > 0 {
			ends = ends[:len(ends)-1]
		}
		for len(ends) > 0 && ends[len(ends)-1] > n {
			ends = ends[:len(ends)-1]
		}
		return ends
	}
	for range 400 {
		c := cutter(r)
		start := text(r, r.IntN(500))
		whole := cuts(t, c, start)
		for range 3 {
			x := within(cuts(t, c, start+text(r, c.Max+r.IntN(100))), len(start))
			y := within(cuts(t, c, start+text(r, c.Max+r.IntN(100))), len(start))
			if !slices.Equal(x, y) {
				t.Fatalf("Cut(%v): within %d: %v and %v", c, len(start), x, y)
			}
			if z := within(whole, len(start)); !slices.Equal(z, x[:min(len(x), len(z))]) || len(x) > len(z)+1 {
				t.Fatalf("Cut(%v): within %d: %v and %v", c, len(start), x, z)
			}
		}
	}
}

// R5, R6: each call returns the same, in lists of its own.
func TestApart(t *testing.T) {
	s := text(rand.New(rand.NewPCG(9, 11)), 1000)
	for range 3 {
		m, p, l := marks(t, some, s), cuts(t, some, s), texts(t, some, s)
		pieces, _ := chunk.Cut(some, s)
		clear(pieces)
		clear(marks(t, some, s))
		clear(texts(t, some, s))
		cuts(t, api.Cutter{Poly: 283, Window: 1, Min: 1, Max: 1}, "other")
		if !slices.Equal(m, marks(t, some, s)) || !slices.Equal(p, cuts(t, some, s)) || !slices.Equal(l, texts(t, some, s)) {
			t.Fatal("another result than before")
		}
	}
}
