package rabin_test

import (
	"math"
	"math/bits"
	"math/rand/v2"
	"strings"
	"testing"

	"maslin/api"
	"maslin/rabin"
)

const minDeg = 8

// fingerprint returns that of s for p, of degree d, as the definition has it: s as a row of coefficients, the highest first, is divided step by step.
func fingerprint(p uint64, s string) uint64 {
	d := bits.Len64(p) - 1
	row := make([]byte, 8*len(s))
	for i := range row {
		row[i] = s[i/8] >> (7 - i%8) & 1
	}
	for i := 0; i+d < len(row); i++ {
		if row[i] == 1 {
			for j := range d + 1 {
				row[i+j] ^= byte(p >> (d - j) & 1)
			}
		}
	}
	rest := uint64(0)
	for _, c := range row {
		rest = rest<<1 | uint64(c)
	}
	return rest
}

// last returns the last n bytes of s, preceded by bytes 0, as long as there are fewer.
func last(s string, n int) string {
	s = strings.Repeat("\x00", n) + s
	return s[len(s)-n:]
}

// xor returns the exclusive or of two strings with the same length.
func xor(a, b string) string {
	c := []byte(a)
	for i := range c {
		c[i] ^= b[i]
	}
	return string(c)
}

// ofDegree returns a random polynomial of degree d.
func ofDegree(r *rand.Rand, d int) uint64 {
	return 1<<d | r.Uint64()&(1<<d-1)
}

// text returns n random bytes.
func text(r *rand.Rand, n int) string {
	b := make([]byte, n)
	for i := range b {
		b[i] = byte(r.Uint32())
	}
	return string(b)
}

// rightPolys returns polynomials of each degree that p may have: the least, the greatest, and others.
func rightPolys(r *rand.Rand) []uint64 {
	l := []uint64{283}
	for d := minDeg; d <= api.MaxDeg; d++ {
		l = append(l, 1<<d, 1<<d|1, 2<<d-1, ofDegree(r, d))
	}
	return l
}

// wrongPolys returns polynomials of each degree that p may not have, and 0.
func wrongPolys(r *rand.Rand) []uint64 {
	l := []uint64{0}
	for d := range 64 {
		if d < minDeg || d > api.MaxDeg {
			l = append(l, 1<<d, 1<<d|1, 2<<d-1, ofDegree(r, d))
		}
	}
	return l
}

// wrongWindows are numbers of bytes that a window may not have.
var wrongWindows = []int{0, -1, -8, -64, math.MinInt, math.MinInt + 1, math.MinInt32, api.MaxWindow + 1, api.MaxWindow + 2, 2 * api.MaxWindow, 256, 1 << 32, 1<<32 + 1, 1<<61 + 1, math.MaxInt}

// of returns Of's fingerprint, and fails if there is an error.
func of(t *testing.T, p uint64, s string) uint64 {
	t.Helper()
	f, e := rabin.Of(p, s)
	if e != api.OK {
		t.Fatalf("Of(%#x, %d bytes): %v", p, len(s), e)
	}
	return f
}

// roller returns New's roller, and fails if there is an error, or none.
func roller(t *testing.T, p uint64, window int) *rabin.Roller {
	t.Helper()
	r, e := rabin.New(p, window)
	if e != api.OK || r == nil {
		t.Fatalf("New(%#x, %d): %v, %v", p, window, r, e)
	}
	return r
}

// roll gives r the bytes of s, and fails unless Roll and Sum return want.
func roll(t *testing.T, r *rabin.Roller, s string, want uint64) {
	t.Helper()
	if got, e := r.Roll(s); got != want || e != api.OK {
		t.Fatalf("Roll(%d bytes): %#x, %v; not %#x", len(s), got, e, want)
	}
	sum(t, r, want)
}

// sum fails unless Sum returns want, more than once.
func sum(t *testing.T, r *rabin.Roller, want uint64) {
	t.Helper()
	for range 2 {
		if got := r.Sum(); got != want {
			t.Fatalf("Sum: %#x, not %#x", got, want)
		}
	}
}

// The chapter's examples.
func TestExamples(t *testing.T) {
	if got := of(t, 283, "\x01\x00"); got != 27 {
		t.Errorf("Of(283, the bytes 1 0): %d", got)
	}
	r := roller(t, 283, 2)
	roll(t, r, "\x09\x01\x00", 27)
	roll(t, r, "\x00\x00", 0)
}

// P8.1: each degree with each window: only from 8 to MaxDeg, and from 1 to MaxWindow.
func TestCheck(t *testing.T) {
	r := rand.New(rand.NewPCG(8, 1))
	check := func(p uint64, window int, want api.Errno) {
		if got := rabin.Check(p, window); got != want {
			t.Errorf("Check(%#x, %d): %v, not %v", p, window, got, want)
		}
	}
	for _, p := range rightPolys(r) {
		for window := 1; window <= api.MaxWindow; window++ {
			check(p, window, api.OK)
		}
		for _, window := range wrongWindows {
			check(p, window, api.ErrArg)
		}
	}
	for _, p := range wrongPolys(r) {
		for window := 1; window <= api.MaxWindow; window++ {
			check(p, window, api.ErrArg)
		}
		for _, window := range wrongWindows {
			check(p, window, api.ErrArg)
		}
	}
}

// P8.1: the empty string, and all strings of one and of two bytes.
func TestOfShort(t *testing.T) {
	r := rand.New(rand.NewPCG(8, 2))
	for _, p := range rightPolys(r) {
		if got := of(t, p, ""); got != 0 {
			t.Errorf("Of(%#x, no byte): %#x", p, got)
		}
		for b := range 256 {
			if got := of(t, p, string([]byte{byte(b)})); got != uint64(b) {
				t.Errorf("Of(%#x, the byte %d): %#x", p, b, got)
			}
		}
	}
	for _, p := range []uint64{1 << 8, 283, 1<<9 - 1, 1<<9 | 3, ofDegree(r, 15), ofDegree(r, 16), ofDegree(r, 17)} {
		for b := range 1 << 16 {
			s := string([]byte{byte(b >> 8), byte(b)})
			if got, want := of(t, p, s), fingerprint(p, s); got != want {
				t.Fatalf("Of(%#x, %q): %#x, not %#x", p, s, got, want)
			}
		}
	}
}

// P8.1: strings of many lengths, for each degree.
func TestOfDegrees(t *testing.T) {
	r := rand.New(rand.NewPCG(8, 3))
	for _, p := range rightPolys(r) {
		for n := range 20 {
			for _, s := range []string{text(r, n), text(r, r.IntN(200)), strings.Repeat("\xff", n), strings.Repeat("\x00", n) + "\x80", "\x80" + strings.Repeat("\x00", n)} {
				if got, want := of(t, p, s), fingerprint(p, s); got != want {
					t.Fatalf("Of(%#x, %q): %#x, not %#x", p, s, got, want)
				}
			}
		}
	}
}

// P8.1: bytes are taken as they are, whether or not they are UTF-8.
func TestOfBytes(t *testing.T) {
	for _, s := range []string{"ä€\U0001f600", "\xc3\x28", "\xff\xfe", "a\x00b", "\xe2\x82"} {
		if got, want := of(t, 1<<40|1<<5|1<<4|1<<3|1, s), fingerprint(1<<40|1<<5|1<<4|1<<3|1, s); got != want {
			t.Errorf("Of(%q): %#x, not %#x", s, got, want)
		}
	}
}

// P8.1: what has fewer bytes than the degree has room for is its own number; bytes 0 ahead do not count.
func TestOfNumbers(t *testing.T) {
	r := rand.New(rand.NewPCG(8, 4))
	for n := 1; n <= api.MaxDeg/8; n++ {
		s := text(r, n)
		want := uint64(0)
		for i := range n {
			want = want<<8 | uint64(s[i])
		}
		for d := 8 * n; d <= api.MaxDeg; d++ {
			p := ofDegree(r, d)
			if got := of(t, p, s); got != want {
				t.Errorf("Of(%#x, %q): %#x, not %#x", p, s, got, want)
			}
			if got := of(t, p, strings.Repeat("\x00", 70)+s); got != want {
				t.Errorf("Of(%#x, bytes 0 and %q): %#x, not %#x", p, s, got, want)
			}
		}
	}
}

// P8.1: a long string, of which all bytes count.
func TestOfLong(t *testing.T) {
	r := rand.New(rand.NewPCG(8, 5))
	s := text(r, 1<<17)
	for _, p := range []uint64{283, 1<<53 | 1<<6 | 1<<2 | 1<<1 | 1, 1<<57 - 1} {
		want := fingerprint(p, s)
		if got := of(t, p, s); got != want {
			t.Errorf("Of(%#x, %d bytes): %#x, not %#x", p, len(s), got, want)
		}
		if got := of(t, p, "\x01"+s[1:]); s[0] != 1 && got == want {
			t.Errorf("Of(%#x, %d bytes): the first one does not count", p, len(s))
		}
	}
}

// P8.1, R2: a degree below 8 or beyond MaxDeg is ErrArg, with 0 beside it, even for no byte.
func TestOfWrong(t *testing.T) {
	r := rand.New(rand.NewPCG(8, 6))
	for _, p := range wrongPolys(r) {
		for _, s := range []string{"", "\x00", "\x01", "a", "abc", text(r, 100)} {
			if got, e := rabin.Of(p, s); got != 0 || e != api.ErrArg {
				t.Errorf("Of(%#x, %q): %#x, %v", p, s, got, e)
			}
		}
	}
}

// P8.2, R2: no roller beside an error.
func TestNewWrong(t *testing.T) {
	r := rand.New(rand.NewPCG(8, 7))
	check := func(p uint64, window int) {
		if got, e := rabin.New(p, window); got != nil || e != api.ErrArg {
			t.Errorf("New(%#x, %d): %v, %v", p, window, got, e)
		}
	}
	for _, window := range wrongWindows {
		check(283, window)
		check(1<<57-1, window)
		check(0, window)
		check(1<<57, window)
	}
	for _, p := range wrongPolys(r) {
		for _, window := range []int{1, 2, 48, api.MaxWindow} {
			check(p, window)
		}
	}
}

// P8.2: what was given nothing has the fingerprint 0, and bytes 0 do not change that.
func TestNewEmpty(t *testing.T) {
	r := rand.New(rand.NewPCG(8, 8))
	for _, p := range rightPolys(r) {
		for _, window := range []int{1, 2, 31, api.MaxWindow} {
			x := roller(t, p, window)
			sum(t, x, 0)
			roll(t, x, "", 0)
			roll(t, x, "\x00", 0)
			roll(t, x, strings.Repeat("\x00", 2*api.MaxWindow), 0)
		}
	}
}

// P8.2: each degree and each window, byte by byte, from the first bytes to some that go out.
func TestRollBytes(t *testing.T) {
	r := rand.New(rand.NewPCG(8, 9))
	for _, p := range rightPolys(r) {
		for _, window := range []int{1, 2, 3, 7, 8, 16, 63, api.MaxWindow, 1 + r.IntN(api.MaxWindow)} {
			x, s := roller(t, p, window), text(r, 3*window+5)
			for i := range len(s) {
				roll(t, x, s[i:i+1], fingerprint(p, last(s[:i+1], window)))
			}
		}
	}
}

// P8.2: each value of a byte comes in, and goes out, of each window.
func TestRollValues(t *testing.T) {
	r := rand.New(rand.NewPCG(8, 10))
	for window := 1; window <= api.MaxWindow; window++ {
		p := ofDegree(r, minDeg+r.IntN(api.MaxDeg-minDeg+1))
		x := roller(t, p, window)
		for b := range 256 {
			s := string([]byte{byte(b)}) + text(r, window-1)
			for _, c := range []byte(s) {
				x.Roll(string([]byte{c}))
			}
			sum(t, x, fingerprint(p, s))
		}
	}
}

// P8.2: strings of any length, none, shorter than the window, as long, longer, are given in order.
func TestRollStrings(t *testing.T) {
	r := rand.New(rand.NewPCG(8, 11))
	for window := 1; window <= api.MaxWindow; window++ {
		p := ofDegree(r, minDeg+r.IntN(api.MaxDeg-minDeg+1))
		x, given := roller(t, p, window), ""
		for range 60 {
			n := []int{0, 1, window - 1, window, window + 1, r.IntN(2 * window), r.IntN(300)}[r.IntN(7)]
			s := text(r, n)
			given += s
			roll(t, x, s, fingerprint(p, last(given, window)))
		}
	}
}

// P8.2: at once a long string, and after it some bytes more.
func TestRollLong(t *testing.T) {
	r := rand.New(rand.NewPCG(8, 12))
	s := text(r, 1<<20)
	for _, window := range []int{1, 48, api.MaxWindow} {
		p := ofDegree(r, api.MaxDeg)
		x := roller(t, p, window)
		roll(t, x, s, fingerprint(p, last(s, window)))
		roll(t, x, "abc", fingerprint(p, last(s+"abc", window)))
	}
}

// P8.2: after Reset, whenever it is, a roller does what a new one does.
func TestReset(t *testing.T) {
	r := rand.New(rand.NewPCG(8, 13))
	for window := 1; window <= api.MaxWindow; window++ {
		p := ofDegree(r, minDeg+r.IntN(api.MaxDeg-minDeg+1))
		x := roller(t, p, window)
		x.Reset()
		sum(t, x, 0)
		for _, n := range []int{0, 1, window - 1, window, window + 1, 2*window + 3} {
			roll(t, x, strings.Repeat("\xff", n), fingerprint(p, last(strings.Repeat("\xff", n), window)))
			x.Reset()
			sum(t, x, 0)
			s := text(r, window+2)
			for i := range len(s) {
				roll(t, x, s[i:i+1], fingerprint(p, last(s[:i+1], window)))
			}
			x.Reset()
			x.Reset()
			sum(t, x, 0)
		}
	}
}

// P8.2, R5: a copy goes on as its original does, and neither changes the other.
func TestCopy(t *testing.T) {
	r := rand.New(rand.NewPCG(8, 14))
	for window := 1; window <= api.MaxWindow; window++ {
		p := ofDegree(r, minDeg+r.IntN(api.MaxDeg-minDeg+1))
		for _, n := range []int{0, 1, window - 1, window, window + 1, r.IntN(200)} {
			x, s := roller(t, p, window), text(r, n)
			x.Roll(s)
			y := x.Copy()
			if y == nil || y == x {
				t.Fatalf("Copy: %p of %p", y, x)
			}
			sum(t, y, x.Sum())
			a, b := text(r, window+3), text(r, window+3)
			for i := range len(a) {
				roll(t, x, a[i:i+1], fingerprint(p, last(s+a[:i+1], window)))
				roll(t, y, b[i:i+1], fingerprint(p, last(s+b[:i+1], window)))
			}
			z := y.Copy()
			y.Reset()
			roll(t, z, "z", fingerprint(p, last(s+b+"z", window)))
			sum(t, x, fingerprint(p, last(s+a, window)))
			sum(t, y, 0)
			z.Reset()
			roll(t, y, "y", fingerprint(p, last("y", window)))
			sum(t, z, 0)
		}
	}
}

// P8.2, R6: rollers that are rolled by turns do not change each other.
func TestRollersApart(t *testing.T) {
	r := rand.New(rand.NewPCG(8, 15))
	type one struct {
		roller *rabin.Roller
		p      uint64
		window int
		given  string
	}
	var l []*one
	for i := range 40 {
		p, window := ofDegree(r, minDeg+r.IntN(api.MaxDeg-minDeg+1)), 1+r.IntN(api.MaxWindow)
		if i%2 == 1 {
			p, window = l[i-1].p, l[i-1].window
		}
		l = append(l, &one{roller: roller(t, p, window), p: p, window: window})
	}
	for range 2000 {
		x, s := l[r.IntN(len(l))], text(r, r.IntN(20))
		x.given += s
		roll(t, x.roller, s, fingerprint(x.p, last(x.given, x.window)))
	}
	for _, x := range l {
		sum(t, x.roller, fingerprint(x.p, last(x.given, x.window)))
	}
}

// P8.2, R3: what is not there returns ErrNil, or zero values, and has no effect.
func TestNil(t *testing.T) {
	var r *rabin.Roller
	for _, s := range []string{"", "\x00", "abc", strings.Repeat("a", 100)} {
		if got, e := r.Roll(s); got != 0 || e != api.ErrNil {
			t.Errorf("Roll(%q): %#x, %v", s, got, e)
		}
		if got := r.Sum(); got != 0 {
			t.Errorf("Sum: %#x", got)
		}
	}
	r.Reset()
	if got := r.Copy(); got != nil {
		t.Errorf("Copy: %v", got)
	}
}

// P8.3: whatever came before, the last bytes alone count; of these each one does, if x is no factor of p.
func TestLastBytes(t *testing.T) {
	r := rand.New(rand.NewPCG(8, 16))
	for window := 1; window <= api.MaxWindow; window++ {
		p := ofDegree(r, minDeg+r.IntN(api.MaxDeg-minDeg+1)) | 1
		tail := text(r, window)
		want := of(t, p, tail)
		for _, head := range []string{"", "\x00", "\xff", text(r, 1), text(r, window), text(r, r.IntN(500))} {
			x := roller(t, p, window)
			x.Roll(head)
			roll(t, x, tail, want)
			y := roller(t, p, window)
			roll(t, y, head+tail, want)
		}
		for i := range window {
			changed := []byte(tail)
			changed[i] ^= byte(1 + r.IntN(255))
			x := roller(t, p, window)
			if got, e := x.Roll("ab" + string(changed)); got == want || e != api.OK {
				t.Fatalf("%#x, %d: the same fingerprint %#x, %v with another byte %d", p, window, got, e, i)
			}
		}
	}
}

// P8.3: the fingerprint of an exclusive or is the exclusive or of the fingerprints.
func TestXor(t *testing.T) {
	r := rand.New(rand.NewPCG(8, 17))
	for range 3000 {
		p, n := ofDegree(r, minDeg+r.IntN(api.MaxDeg-minDeg+1)), r.IntN(150)
		a, b := text(r, n), text(r, n)
		if got, want := of(t, p, xor(a, b)), of(t, p, a)^of(t, p, b); got != want {
			t.Fatalf("Of(%#x, of %d bytes): %#x, not %#x", p, n, got, want)
		}
		window := 1 + r.IntN(api.MaxWindow)
		x, y, z := roller(t, p, window), roller(t, p, window), roller(t, p, window)
		x.Roll(a)
		y.Roll(b)
		roll(t, z, xor(a, b), x.Sum()^y.Sum())
	}
}
