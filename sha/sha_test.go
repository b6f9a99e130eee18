package sha_test

import (
	"crypto/sha256"
	"encoding/hex"
	"math/big"
	"math/rand/v2"
	"strings"
	"testing"

	"maslin/api"
	"maslin/sha"
)

// digest is the digest of s, computed by Go's library.
func digest(s string) string {
	b := sha256.Sum256([]byte(s))
	return string(b[:])
}

// digits are the hexadecimal digits of s, as Go's library has them.
func digits(s string) string { return hex.EncodeToString([]byte(s)) }

// noise returns n bytes of which each value may be any.
func noise(r *rand.Rand, n int) string {
	b := make([]byte, n)
	for i := range b {
		b[i] = byte(r.Uint32())
	}
	return string(b)
}

// sumOf returns the digest of the pieces, written one by one.
func sumOf(t *testing.T, pieces ...string) string {
	t.Helper()
	h := sha.New()
	for _, p := range pieces {
		if e := h.Write(p); e != api.OK {
			t.Fatalf("Write of %d bytes: %v", len(p), e)
		}
	}
	return h.Sum()
}

// P2.1: published digests.
func TestSumPublished(t *testing.T) {
	for _, x := range []struct{ s, want string }{
		{"", "e3b0c44298fc1c149afbf4c8996fb92427ae41e4649b934ca495991b7852b855"},
		{"abc", "ba7816bf8f01cfea414140de5dae2223b00361a396177a9cb410ff61f20015ad"},
		{"abcdbcdecdefdefgefghfghighijhijkijkljklmklmnlmnomnopnopq", "248d6a61d20638b8e5c026930c3e6039a33ce45964ff2167f6ecedd419db06c1"},
		{"abcdefghbcdefghicdefghijdefghijkefghijklfghijklmghijklmnhijklmnoijklmnopjklmnopqklmnopqrlmnopqrsmnopqrstnopqrstu", "cf5b16a778af8380036ce59e7b0492370b249b11e8f07a51afac45037afee9d1"},
		{strings.Repeat("a", 1e6), "cdc76e5c9914fb9281a1c7e284d73e67f1809a48a497200e046d39ccc7112cd0"},
	} {
		if got := digits(sha.Sum(x.s)); got != x.want {
			t.Errorf("Sum of %d bytes: %s, not %s", len(x.s), got, x.want)
		}
		if got := digits(sumOf(t, x.s)); got != x.want {
			t.Errorf("Sum behind Write of %d bytes: %s, not %s", len(x.s), got, x.want)
		}
	}
}

// P2.1: every length up to some blocks, with the edges at which the padding needs a block of its own.
func TestSumLengths(t *testing.T) {
	r := rand.New(rand.NewPCG(2, 1))
	for n := range 5*64 + 2 {
		for _, s := range []string{noise(r, n), strings.Repeat("\x00", n), strings.Repeat("\xff", n), strings.Repeat("\x80", n)} {
			got := sha.Sum(s)
			if len(got) != api.SumSize || got != digest(s) {
				t.Fatalf("Sum of %d bytes: %q, not %q", n, got, digest(s))
			}
			if got := sumOf(t, s); got != digest(s) {
				t.Fatalf("Sum behind Write of %d bytes: %q, not %q", n, got, digest(s))
			}
		}
	}
}

// P2.1: a hash to which nothing, or only nothing, has been written.
func TestNew(t *testing.T) {
	if got := sha.New().Sum(); got != digest("") {
		t.Errorf("nothing written: %q", got)
	}
	if got := sumOf(t, "", "", ""); got != digest("") {
		t.Errorf("empty strings written: %q", got)
	}
	if got := sumOf(t, "", "a", "", "b", ""); got != digest("ab") {
		t.Errorf("empty strings written between others: %q", got)
	}
}

// P2.1: more may be written behind Sum, and Sum changes nothing, however often it is asked.
func TestSumThenWrite(t *testing.T) {
	r := rand.New(rand.NewPCG(2, 2))
	s := noise(r, 300)
	h := sha.New()
	for n := range len(s) {
		for range 3 {
			if got := h.Sum(); got != digest(s[:n]) {
				t.Fatalf("Sum of %d bytes: %q", n, got)
			}
		}
		if e := h.Write(s[n : n+1]); e != api.OK {
			t.Fatalf("Write behind Sum: %v", e)
		}
	}
	if got := h.Sum(); got != digest(s) {
		t.Errorf("Sum of all bytes: %q", got)
	}
}

// P2.1: hashes have nothing in common.
func TestHashesApart(t *testing.T) {
	one, two := sha.New(), sha.New()
	one.Write("one")
	two.Write(strings.Repeat("two", 50))
	one.Write(" and more")
	three := sha.New()
	if got := one.Sum(); got != digest("one and more") {
		t.Errorf("the first one: %q", got)
	}
	if got := two.Sum(); got != digest(strings.Repeat("two", 50)) {
		t.Errorf("the second one: %q", got)
	}
	if got := three.Sum(); got != digest("") {
		t.Errorf("the third one: %q", got)
	}
	if got := sha.Sum("other"); got != digest("other") {
		t.Errorf("a string: %q", got)
	}
}

// P2.1, R3: nil is refused, and has the empty string.
func TestNil(t *testing.T) {
	var h *sha.Hash
	for _, s := range []string{"", "a", strings.Repeat("b", 200)} {
		if e := h.Write(s); e != api.ErrNil {
			t.Errorf("Write(%q) of nil: %v", s, e)
		}
		if got := h.Sum(); got != "" {
			t.Errorf("Sum of nil: %q", got)
		}
	}
}

// P2.2: two digits for each byte, the higher one first.
func TestHex(t *testing.T) {
	for s, want := range map[string]string{
		"":                                 "",
		"\x00":                             "00",
		"\x09":                             "09",
		"\x0a":                             "0a",
		"\x90":                             "90",
		"\x9f":                             "9f",
		"\xff":                             "ff",
		"\x00\x9f\xff":                     "009fff",
		"a\nZ":                             "610a5a",
		"ä":                                "c3a4",
		"\x01\x23\x45\x67\x89\xab\xcd\xef": "0123456789abcdef",
		strings.Repeat("\x1e", 70000):      strings.Repeat("1e", 70000),
	} {
		if got := sha.Hex(s); got != want {
			t.Errorf("Hex(%q): %q", s, got)
		}
		if got, e := sha.Unhex(want); got != s || e != api.OK {
			t.Errorf("Unhex(%q): %q, %v", want, got, e)
		}
	}
}

// P2.2: every string of one byte, and of two, is refused or read as the definition says.
func TestUnhexAll(t *testing.T) {
	number := map[string]string{}
	for i := range 256 {
		number[digits(string([]byte{byte(i)}))] = string([]byte{byte(i)})
	}
	for i := range 256 {
		one := string([]byte{byte(i)})
		if got, e := sha.Unhex(one); got != "" || e != api.ErrForm {
			t.Errorf("Unhex(%q): %q, %v", one, got, e)
		}
		for j := range 256 {
			two := string([]byte{byte(i), byte(j)})
			want, ok := number[two]
			got, e := sha.Unhex(two)
			if got != want || ok != (e == api.OK) || !ok && e != api.ErrForm {
				t.Errorf("Unhex(%q): %q, %v", two, got, e)
			}
		}
	}
}

// P2.2, R2: what is no digit is refused wherever it stands, and with the error there is no string.
func TestUnhexWrong(t *testing.T) {
	whole := strings.Repeat("0123456789abcdef", 5)
	for i := range len(whole) {
		for _, c := range []string{"g", "A", "F", "/", ":", "`", "@", " ", "\n", "\x00", "\xff", "x"} {
			if got, e := sha.Unhex(whole[:i] + c + whole[i+1:]); got != "" || e != api.ErrForm {
				t.Fatalf("Unhex with %q at %d: %q, %v", c, i, got, e)
			}
		}
		got, e := sha.Unhex(whole[:i])
		if odd := i%2 != 0; odd && (got != "" || e != api.ErrForm) || !odd && (len(got) != i/2 || e != api.OK) {
			t.Fatalf("Unhex of %d digits: %q, %v", i, got, e)
		}
	}
	for _, s := range []string{"0x00", "00 ", " 00", "00\n", "٠٠", "０", "ab-cd", "AB", "aB", strings.Repeat("0", 100001)} {
		if got, e := sha.Unhex(s); got != "" || e != api.ErrForm {
			t.Errorf("Unhex(%q): %q, %v", s, got, e)
		}
	}
}

// P2.3: two pieces, cut at every place.
func TestTwoPieces(t *testing.T) {
	s := noise(rand.New(rand.NewPCG(2, 3)), 200)
	for n := 0; n <= len(s); n++ {
		if got := sumOf(t, s[:n], s[n:]); got != digest(s) {
			t.Fatalf("cut at %d: %q", n, got)
		}
	}
}

// P2.3: many pieces of the same length, and of any length, with Sum asked between them or not.
func TestManyPieces(t *testing.T) {
	r := rand.New(rand.NewPCG(2, 4))
	s := noise(r, 3000)
	want := digest(s)
	length := func(n int) func() int { return func() int { return n } }
	upTo := func(n int) func() int { return func() int { return r.IntN(n) } }
	for _, next := range []func() int{length(1), length(7), length(55), length(56), length(63), length(64), length(65), length(128), length(1000), upTo(3), upTo(130), upTo(3000)} {
		for _, ask := range []bool{false, true} {
			h, at := sha.New(), 0
			for at < len(s) {
				n := min(next(), len(s)-at)
				h.Write(s[at : at+n])
				at += n
				if ask && h.Sum() != digest(s[:at]) {
					t.Fatalf("another digest behind %d bytes", at)
				}
			}
			if h.Sum() != want {
				t.Fatal("another digest behind all pieces")
			}
		}
	}
}

// P2.3: Unhex inverts Hex, and Hex inverts Unhex.
func TestHexBack(t *testing.T) {
	r := rand.New(rand.NewPCG(2, 5))
	for n := range 300 {
		s := noise(r, n)
		d := sha.Hex(s)
		if d != digits(s) {
			t.Fatalf("Hex(%q): %q", s, d)
		}
		if got, e := sha.Unhex(d); got != s || e != api.OK {
			t.Fatalf("Unhex(Hex(%q)): %q, %v", s, got, e)
		}
		if got, e := sha.Unhex(digits(s)); got != s || e != api.OK || sha.Hex(got) != digits(s) {
			t.Fatalf("Hex(Unhex(%q)): %q, %v", digits(s), got, e)
		}
	}
}

// P2.1: the words that the digest begins with, and those of its rounds, are the first bits of roots: a digest computed from the definition alone, with roots of whole numbers, is the same one.
func TestDefinition(t *testing.T) {
	r := rand.New(rand.NewPCG(2, 6))
	for _, n := range []int{0, 1, 55, 56, 63, 64, 119, 120, 200} {
		s := noise(r, n)
		if got, want := sha.Sum(s), defined(s); got != want {
			t.Errorf("Sum of %d bytes: %q, not %q", n, got, want)
		}
	}
}

// fraction returns the first 32 bits of the fractional part of the root of p, of that degree.
func fraction(p int64, degree int64) uint32 {
	power := new(big.Int).Exp(big.NewInt(2), big.NewInt(32*degree), nil)
	power.Mul(power, big.NewInt(p))
	root := new(big.Int)
	for bit := 40; bit >= 0; bit-- {
		next := new(big.Int).SetBit(root, bit, 1)
		if new(big.Int).Exp(next, big.NewInt(degree), nil).Cmp(power) <= 0 {
			root = next
		}
	}
	return uint32(root.Uint64())
}

// primes returns the first n primes.
func primes(n int) []int64 {
	var l []int64
	for p := int64(2); len(l) < n; p++ {
		if big.NewInt(p).ProbablyPrime(20) {
			l = append(l, p)
		}
	}
	return l
}

// defined is the definition, word by word.
func defined(s string) string {
	rotr := func(x uint32, n int) uint32 { return x>>n | x<<(32-n) }
	var h [8]uint32
	for i, p := range primes(8) {
		h[i] = fraction(p, 2)
	}
	var k [64]uint32
	for i, p := range primes(64) {
		k[i] = fraction(p, 3)
	}
	b := append([]byte(s), 128)
	for len(b)%64 != 56 {
		b = append(b, 0)
	}
	for i := 7; i >= 0; i-- {
		b = append(b, byte(8*len(s)>>(8*i)))
	}
	for ; len(b) > 0; b = b[64:] {
		var w [64]uint32
		for t := range w {
			if t < 16 {
				w[t] = uint32(b[4*t])<<24 | uint32(b[4*t+1])<<16 | uint32(b[4*t+2])<<8 | uint32(b[4*t+3])
				continue
			}
			x, y := w[t-15], w[t-2]
			w[t] = (rotr(y, 17) ^ rotr(y, 19) ^ y>>10) + w[t-7] + (rotr(x, 7) ^ rotr(x, 18) ^ x>>3) + w[t-16]
		}
		v := h
		for t := range w {
			a, e := v[0], v[4]
			t1 := v[7] + (rotr(e, 6) ^ rotr(e, 11) ^ rotr(e, 25)) + (e&v[5] ^ ^e&v[6]) + k[t] + w[t]
			t2 := (rotr(a, 2) ^ rotr(a, 13) ^ rotr(a, 22)) + (a&v[1] ^ a&v[2] ^ v[1]&v[2])
			v = [8]uint32{t1 + t2, v[0], v[1], v[2], v[3] + t1, v[4], v[5], v[6]}
		}
		for i := range h {
			h[i] += v[i]
		}
	}
	var out []byte
	for _, x := range h {
		out = append(out, byte(x>>24), byte(x>>16), byte(x>>8), byte(x))
	}
	return string(out)
}
