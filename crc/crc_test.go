package crc_test

import (
	"hash/crc32"
	"math/rand/v2"
	"strings"
	"testing"
	"unsafe"

	"maslin/api"
	"maslin/crc"
)

// defined is the definition, word by word.
func defined(s string) uint32 {
	c := ^uint32(0)
	for i := range len(s) {
		c ^= uint32(s[i])
		for range 8 {
			out := c & 1
			c >>= 1
			if out == 1 {
				c ^= 0xedb88320
			}
		}
	}
	return ^c
}

// sealed is the sealed form of s, by the definition.
func sealed(s string) string {
	c := defined(s)
	return s + string([]byte{byte(c), byte(c >> 8), byte(c >> 16), byte(c >> 24)})
}

// noise returns n bytes of which each value may be any.
func noise(r *rand.Rand, n int) string {
	b := make([]byte, n)
	for i := range b {
		b[i] = byte(r.Uint32())
	}
	return string(b)
}

// opens fails unless s is the sealed form of want.
func opens(t *testing.T, s, want string) {
	t.Helper()
	if got, e := crc.Open(s); got != want || e != api.OK {
		t.Fatalf("Open of %d bytes: %q, %v", len(s), got, e)
	}
	if !crc.Ok(s) {
		t.Fatalf("Ok of %d bytes: false", len(s))
	}
}

// refused fails unless s is no sealed string, with that error, and with no string beside it.
func refused(t *testing.T, s string, want api.Errno) {
	t.Helper()
	if got, e := crc.Open(s); got != "" || e != want {
		t.Fatalf("Open(%q): %q, %v, not %v", s, got, e, want)
	}
	if crc.Ok(s) {
		t.Fatalf("Ok(%q): true", s)
	}
}

// P3.1: published checksums.
func TestSumPublished(t *testing.T) {
	for s, want := range map[string]uint32{
		"":          0,
		"a":         0xe8b7be43,
		"abc":       0x352441c2,
		"123456789": 0xcbf43926,
		"The quick brown fox jumps over the lazy dog": 0x414fa339,
		strings.Repeat("\x00", 32):                    0x190a55ad,
		strings.Repeat("\xff", 32):                    0xff6cab0b,
		"\xff\xff\xff\xff":                            0xffffffff,
	} {
		if got := crc.Sum(s); got != want {
			t.Errorf("Sum(%q): %#x, not %#x", s, got, want)
		}
	}
}

// P3.1: every string of one byte and of two, and random ones of many lengths, as the definition says.
func TestSumDefined(t *testing.T) {
	for i := range 256 {
		one := string([]byte{byte(i)})
		if got := crc.Sum(one); got != defined(one) {
			t.Fatalf("Sum(%q): %#x", one, got)
		}
		for j := range 256 {
			two := string([]byte{byte(i), byte(j)})
			if got := crc.Sum(two); got != defined(two) {
				t.Fatalf("Sum(%q): %#x", two, got)
			}
		}
	}
	r := rand.New(rand.NewPCG(3, 1))
	for n := range 600 {
		s := noise(r, n)
		if got := crc.Sum(s); got != defined(s) || got != crc32.ChecksumIEEE([]byte(s)) {
			t.Fatalf("Sum of %d bytes: %#x", n, got)
		}
	}
	long := noise(r, 1<<20+3)
	if got := crc.Sum(long); got != crc32.ChecksumIEEE([]byte(long)) {
		t.Errorf("Sum of a long string: %#x", got)
	}
}

// P3.1: whatever number the first part's checksum is, its edges too.
func TestMoreNumbers(t *testing.T) {
	r := rand.New(rand.NewPCG(3, 2))
	numbers := []uint32{0, 1, 0x7fffffff, 0x80000000, 0xfffffffe, 0xffffffff, 0xedb88320}
	for range 200 {
		numbers = append(numbers, r.Uint32())
	}
	for _, c := range numbers {
		for _, s := range []string{"", "\x00", "a", "\xff", "abcd", noise(r, 100)} {
			if got, want := crc.More(c, s), crc32.Update(c, crc32.IEEETable, []byte(s)); got != want {
				t.Fatalf("More(%#x, %q): %#x, not %#x", c, s, got, want)
			}
		}
		if got := crc.More(c, ""); got != c {
			t.Errorf("More(%#x, empty): %#x", c, got)
		}
	}
}

// P3.2: what is sealed ends with the checksum, its lowest byte first.
func TestSeal(t *testing.T) {
	for s, want := range map[string]string{
		"":                 "\x00\x00\x00\x00",
		"a":                "a\x43\xbe\xb7\xe8",
		"123456789":        "123456789\x26\x39\xf4\xcb",
		"\xff\xff\xff\xff": "\xff\xff\xff\xff\xff\xff\xff\xff",
	} {
		if got := crc.Seal(s); got != want {
			t.Errorf("Seal(%q): %q", s, got)
		}
		opens(t, want, s)
	}
}

// P3.2, R2: fewer than four bytes are no sealed string, whatever they are.
func TestOpenEnd(t *testing.T) {
	for _, s := range []string{"", "a", "ab", "abc", "\x00", "\x00\x00", "\x00\x00\x00", "\xff\xff\xff"} {
		refused(t, s, api.ErrEnd)
	}
	// Even the first bytes of one that is sealed.
	for n := range 4 {
		refused(t, crc.Seal("")[:n], api.ErrEnd)
		refused(t, crc.Seal("abc")[:n], api.ErrEnd)
	}
}

// P3.2, R2: four bytes or more, of which the last four are another number.
func TestOpenForm(t *testing.T) {
	refused(t, "abcd", api.ErrForm)
	refused(t, "\x00\x00\x00\x01", api.ErrForm)
	refused(t, "\xff\xff\xff\xff", api.ErrForm)
	refused(t, "\x00\x00\x00\x00\x00", api.ErrForm)
	refused(t, "123456789\xcb\xf4\x39\x26", api.ErrForm)
	whole := crc.Seal("123456789")
	for n := 4; n < len(whole); n++ {
		refused(t, whole[:n], api.ErrForm)
		refused(t, whole[len(whole)-n:], api.ErrForm)
	}
	for i := range 256 {
		refused(t, whole+string([]byte{byte(i)}), api.ErrForm)
		refused(t, string([]byte{byte(i)})+whole, api.ErrForm)
	}
}

// P3.2: of the numbers behind a string only its checksum is right: each byte of it counts.
func TestOpenEachByte(t *testing.T) {
	for _, s := range []string{"", "a", "some more bytes"} {
		whole := crc.Seal(s)
		for i := range 4 {
			at := len(s) + i
			for v := range 256 {
				other := whole[:at] + string([]byte{byte(v)}) + whole[at+1:]
				if other == whole {
					opens(t, other, s)
				} else {
					refused(t, other, api.ErrForm)
				}
			}
		}
	}
}

// P3.3: piece by piece: two pieces cut at every place, and many of any length.
func TestPieces(t *testing.T) {
	r := rand.New(rand.NewPCG(3, 3))
	s := noise(r, 300)
	want := defined(s)
	for n := 0; n <= len(s); n++ {
		if got := crc.More(crc.Sum(s[:n]), s[n:]); got != want {
			t.Fatalf("cut at %d: %#x", n, got)
		}
	}
	for range 200 {
		c := crc.Sum("")
		for rest := s; rest != ""; {
			n := r.IntN(min(len(rest), 40) + 1)
			c, rest = crc.More(c, rest[:n]), rest[n:]
		}
		if c != want {
			t.Fatalf("many pieces: %#x", c)
		}
	}
}

// P3.3: Open inverts Seal, and what is sealed may be sealed again.
func TestOpenInverts(t *testing.T) {
	r := rand.New(rand.NewPCG(3, 4))
	for n := range 400 {
		for _, s := range []string{noise(r, n), strings.Repeat("\x00", n), strings.Repeat("\xff", n)} {
			whole := crc.Seal(s)
			if whole != sealed(s) {
				t.Fatalf("Seal of %d bytes: %q", n, whole)
			}
			opens(t, whole, s)
			opens(t, crc.Seal(whole), whole)
		}
	}
}

// flipped returns s with the bits of mask flipped, the lowest one of which stands at bit at.
func flipped(s string, at int, mask uint32) string {
	b := []byte(s)
	for i := range 32 {
		if mask>>i&1 == 1 {
			b[(at+i)/8] ^= 1 << ((at + i) % 8)
		}
	}
	return string(b)
}

// P3.3: one flipped bit, and any two within 32, are detected at every place.
func TestFlips(t *testing.T) {
	for _, s := range []string{"", "a", "123456789", strings.Repeat("\x00", 20)} {
		whole := crc.Seal(s)
		size := 8 * len(whole)
		for at := range size {
			refused(t, flipped(whole, at, 1), api.ErrForm)
			for i := 1; i < 32 && at+i < size; i++ {
				refused(t, flipped(whole, at, 1|1<<i), api.ErrForm)
			}
		}
	}
}

// P3.3: any bits within 32 consecutive ones, in the string, in its checksum, and across both.
func TestBursts(t *testing.T) {
	r := rand.New(rand.NewPCG(3, 5))
	for range 300 {
		whole := crc.Seal(noise(r, r.IntN(60)))
		for at := 0; at+32 <= 8*len(whole); at++ {
			refused(t, flipped(whole, at, r.Uint32()|1), api.ErrForm)
		}
		last := 8*len(whole) - 32
		refused(t, flipped(whole, last, ^uint32(0)), api.ErrForm)
		refused(t, flipped(whole, 0, ^uint32(0)), api.ErrForm)
	}
}

// P3.2, R5: what Open returns shares no memory with its argument.
func TestOpenApart(t *testing.T) {
	whole := crc.Seal("a string that is opened")
	got, e := crc.Open(whole)
	if e != api.OK || unsafe.StringData(got) == unsafe.StringData(whole) {
		t.Errorf("Open: %v, or a part of its argument", e)
	}
}
