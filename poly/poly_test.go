package poly_test

import (
	"math"
	"math/rand/v2"
	"testing"

	"maslin/api"
	"maslin/poly"
)

// row has a polynomial's coefficients, one by one: enough of them for a product.
type row [128]byte

// rowOf returns the coefficients of a.
func rowOf(a uint64) row {
	var r row
	for i := range 64 {
		r[i] = byte(a >> i & 1)
	}
	return r
}

// number returns the polynomial of which r has the coefficients.
func (r row) number() uint64 {
	a := uint64(0)
	for i, c := range r {
		if c == 1 {
			a |= 1 << i
		}
	}
	return a
}

// degree returns the index of the last coefficient that is 1.
func (r row) degree() int {
	d := -1
	for i, c := range r {
		if c == 1 {
			d = i
		}
	}
	return d
}

// times returns the product.
func (r row) times(s row) row {
	var p row
	for i, c := range r {
		if c == 1 {
			for j := range len(p) - i {
				p[i+j] ^= s[j]
			}
		}
	}
	return p
}

// by returns the remainder, divided by s.
func (r row) by(s row) row {
	d := s.degree()
	for i := len(r) - 1; i >= d; i-- {
		if r[i] == 1 {
			for j := range d + 1 {
				r[i-d+j] ^= s[j]
			}
		}
	}
	return r
}

// product returns the product of a and b, which has a degree of at most 63.
func product(a, b uint64) uint64 {
	p := uint64(0)
	for ; b != 0; a, b = a<<1, b>>1 {
		p ^= a * (b & 1)
	}
	return p
}

// mod returns Mod's remainder, and fails if there is an error.
func mod(t *testing.T, a, p uint64) uint64 {
	t.Helper()
	m, e := poly.Mod(a, p)
	if e != api.OK {
		t.Fatalf("Mod(%#x, %#x): %v", a, p, e)
	}
	return m
}

// mul returns Mul's remainder, and fails if there is an error.
func mul(t *testing.T, a, b, p uint64) uint64 {
	t.Helper()
	m, e := poly.Mul(a, b, p)
	if e != api.OK {
		t.Fatalf("Mul(%#x, %#x, %#x): %v", a, b, p, e)
	}
	return m
}

// up returns Up's remainder, and fails if there is an error.
func up(t *testing.T, n int, p uint64) uint64 {
	t.Helper()
	m, e := poly.Up(n, p)
	if e != api.OK {
		t.Fatalf("Up(%d, %#x): %v", n, p, e)
	}
	return m
}

// ofDegree returns a polynomial of that degree, with random coefficients below it.
func ofDegree(r *rand.Rand, d int) uint64 {
	if d < 0 {
		return 0
	}
	return 1<<d | r.Uint64()&(1<<d-1)
}

// any64 returns a random number of a random degree, 0 too.
func any64(r *rand.Rand) uint64 {
	return ofDegree(r, r.IntN(65)-1)
}

// P7.1 to P7.3: the chapter's examples.
func TestExamples(t *testing.T) {
	for a, want := range map[uint64]int{0: -1, 1: 0, 19: 4} {
		if got := poly.Deg(a); got != want {
			t.Errorf("Deg(%d): %d", a, got)
		}
	}
	if got := mod(t, 21, 7); got != 0 {
		t.Errorf("Mod(21, 7): %d", got)
	}
	if got := mul(t, 2, 8, 19); got != 3 {
		t.Errorf("Mul(2, 8, 19): %d", got)
	}
	if got := poly.Gcd(6, 5); got != 3 {
		t.Errorf("Gcd(6, 5): %d", got)
	}
	if got := up(t, 4, 19); got != 3 {
		t.Errorf("Up(4, 19): %d", got)
	}
	for p, want := range map[uint64]bool{19: true, 21: false, 1: false} {
		if got := poly.Prime(p); got != want {
			t.Errorf("Prime(%d): %v", p, got)
		}
	}
}

// P7.1: each degree, whatever is below the highest bit.
func TestDeg(t *testing.T) {
	if got := poly.Deg(0); got != -1 {
		t.Errorf("Deg(0): %d", got)
	}
	r := rand.New(rand.NewPCG(7, 1))
	for d := range 64 {
		top := uint64(1) << d
		for _, a := range []uint64{top, top | (top - 1), top | 1, ofDegree(r, d), ofDegree(r, d)} {
			if got := poly.Deg(a); got != d {
				t.Errorf("Deg(%#x): %d, not %d", a, got, d)
			}
		}
	}
}

// P7.1: the one remainder of a smaller degree that differs from a by a multiple of p, among all small ones.
func TestModSmall(t *testing.T) {
	const small = 1 << 6
	for p := uint64(1); p < small; p++ {
		for q := range uint64(small) {
			multiple := product(p, q)
			// Each number below p's highest power is a remainder.
			for rest := range uint64(1) << rowOf(p).degree() {
				if got := mod(t, multiple^rest, p); got != rest {
					t.Fatalf("Mod(%#x, %#x): %#x, not %#x", multiple^rest, p, got, rest)
				}
			}
		}
	}
}

// P7.1: polynomials of all degrees up to 63, on both sides.
func TestModDegrees(t *testing.T) {
	r := rand.New(rand.NewPCG(7, 2))
	for d := range 65 {
		for n := range 64 {
			for _, a := range []uint64{ofDegree(r, d-1), 1<<d - 1} {
				for _, p := range []uint64{1 << n, ofDegree(r, n), 1<<n | (1<<n - 1)} {
					if got, want := mod(t, a, p), rowOf(a).by(rowOf(p)).number(); got != want {
						t.Fatalf("Mod(%#x, %#x): %#x, not %#x", a, p, got, want)
					}
				}
			}
		}
	}
}

// P7.1: by 1 all remainders are 0; what has a smaller degree is its own remainder, and p's is 0.
func TestModEdges(t *testing.T) {
	r := rand.New(rand.NewPCG(7, 3))
	for _, a := range []uint64{0, 1, 2, math.MaxUint64, 1 << 63, r.Uint64()} {
		if got := mod(t, a, 1); got != 0 {
			t.Errorf("Mod(%#x, 1): %#x", a, got)
		}
	}
	for d := 1; d < 64; d++ {
		p := ofDegree(r, d)
		if got := mod(t, p, p); got != 0 {
			t.Errorf("Mod(%#x, itself): %#x", p, got)
		}
		for _, a := range []uint64{0, 1, 1 << (d - 1), 1<<d - 1} {
			if got := mod(t, a, p); got != a {
				t.Errorf("Mod(%#x, %#x): %#x", a, p, got)
			}
		}
	}
}

// P7.1, R2: division by 0 is ErrArg, with 0 beside it, whatever is divided.
func TestModWrong(t *testing.T) {
	for _, a := range []uint64{0, 1, 2, 21, 1 << 63, math.MaxUint64} {
		if got, e := poly.Mod(a, 0); got != 0 || e != api.ErrArg {
			t.Errorf("Mod(%#x, 0): %#x, %v", a, got, e)
		}
	}
}

// P7.1: all small factors and divisors.
func TestMulSmall(t *testing.T) {
	for p := uint64(2); p < 1<<5; p++ {
		for a := range uint64(1) << 6 {
			for b := range uint64(1) << 6 {
				want := rowOf(product(a, b)).by(rowOf(p)).number()
				if got := mul(t, a, b, p); got != want {
					t.Fatalf("Mul(%#x, %#x, %#x): %#x, not %#x", a, b, p, got, want)
				}
			}
		}
	}
}

// P7.1: each degree that a divisor may have, from 1 to MaxDeg; factors of all 64 bits.
func TestMulDegrees(t *testing.T) {
	r := rand.New(rand.NewPCG(7, 4))
	for d := 1; d <= api.MaxDeg; d++ {
		for _, p := range []uint64{1 << d, 1<<d | (1<<d - 1), ofDegree(r, d)} {
			for _, x := range [][2]uint64{
				{0, 0}, {0, math.MaxUint64}, {1, p}, {p, p}, {1, p - 1}, {p - 1, p - 1},
				{math.MaxUint64, math.MaxUint64}, {1 << 63, 1 << 63},
				{any64(r), any64(r)}, {any64(r), any64(r)}, {any64(r), any64(r)},
			} {
				want := rowOf(x[0]).times(rowOf(x[1])).by(rowOf(p)).number()
				if got := mul(t, x[0], x[1], p); got != want {
					t.Fatalf("Mul(%#x, %#x, %#x): %#x, not %#x", x[0], x[1], p, got, want)
				}
				if got := mul(t, x[1], x[0], p); got != want {
					t.Fatalf("Mul(%#x, %#x, %#x): %#x, not %#x", x[1], x[0], p, got, want)
				}
			}
		}
	}
}

// wrongDivisors returns polynomials whose degrees are not from 1 to MaxDeg, those next to the limits among them.
func wrongDivisors() []uint64 {
	r := rand.New(rand.NewPCG(7, 5))
	l := []uint64{0, 1, math.MaxUint64}
	for d := api.MaxDeg + 1; d < 64; d++ {
		l = append(l, 1<<d, 1<<d|1, 1<<d|(1<<d-1), ofDegree(r, d))
	}
	return l
}

// P7.1, P7.2, R2: a divisor whose degree is not from 1 to MaxDeg is ErrArg, with 0 beside it.
func TestWrongDivisors(t *testing.T) {
	for _, p := range wrongDivisors() {
		for _, a := range []uint64{0, 1, 2, 1 << 56, math.MaxUint64} {
			if got, e := poly.Mul(a, 3, p); got != 0 || e != api.ErrArg {
				t.Errorf("Mul(%#x, 3, %#x): %#x, %v", a, p, got, e)
			}
		}
		for _, n := range []int{0, 1, 5, 1000, math.MaxInt, -1} {
			if got, e := poly.Up(n, p); got != 0 || e != api.ErrArg {
				t.Errorf("Up(%d, %#x): %#x, %v", n, p, got, e)
			}
		}
	}
}

// P7.2: of all polynomials that divide both, the one of the greatest degree.
func TestGcdSmall(t *testing.T) {
	const small = 1 << 6
	divides := func(g, a uint64) bool { return rowOf(a).by(rowOf(g)).degree() < 0 }
	for a := range uint64(small) {
		for b := range uint64(small) {
			want := uint64(0)
			for g := uint64(1); g < small && a|b != 0; g++ {
				if divides(g, a) && divides(g, b) && rowOf(g).degree() > rowOf(want).degree() {
					want = g
				}
			}
			if got := poly.Gcd(a, b); got != want {
				t.Fatalf("Gcd(%#x, %#x): %#x, not %#x", a, b, got, want)
			}
		}
	}
}

// P7.2: beside 0 it is the other one; of 0 and 0 it is 0; with 1 it is 1.
func TestGcdEdges(t *testing.T) {
	if got := poly.Gcd(0, 0); got != 0 {
		t.Errorf("Gcd(0, 0): %#x", got)
	}
	r := rand.New(rand.NewPCG(7, 6))
	for d := range 64 {
		a := ofDegree(r, d)
		if x, y, z := poly.Gcd(a, 0), poly.Gcd(0, a), poly.Gcd(a, a); x != a || y != a || z != a {
			t.Errorf("%#x with 0, 0 with it, it with itself: %#x, %#x, %#x", a, x, y, z)
		}
		if x, y := poly.Gcd(a, 1), poly.Gcd(1, a); x != 1 || y != 1 {
			t.Errorf("%#x with 1, 1 with it: %#x, %#x", a, x, y)
		}
	}
}

// P7.2: multiples of one polynomial by two that have no factor in common, up to degree 63.
func TestGcdMultiples(t *testing.T) {
	r := rand.New(rand.NewPCG(7, 7))
	for d := range 64 {
		g := ofDegree(r, d)
		// Neighbours that differ by 1 have no factor in common but 1.
		u := ofDegree(r, r.IntN(64-d))
		v := u ^ 1
		a, b := product(g, u), product(g, v)
		if x, y := poly.Gcd(a, b), poly.Gcd(b, a); x != g || y != g {
			t.Errorf("Gcd(%#x, %#x): %#x and %#x, not %#x", a, b, x, y, g)
		}
	}
}

// P7.2: x^n, multiplied by x step by step.
func TestUpSteps(t *testing.T) {
	r := rand.New(rand.NewPCG(7, 8))
	for d := 1; d <= api.MaxDeg; d++ {
		for _, p := range []uint64{1 << d, 1<<d | 1, 1<<d | (1<<d - 1), ofDegree(r, d), ofDegree(r, d)} {
			want := rowOf(1).by(rowOf(p))
			for n := range 200 {
				if got := up(t, n, p); got != want.number() {
					t.Fatalf("Up(%d, %#x): %#x, not %#x", n, p, got, want.number())
				}
				want = want.times(rowOf(2)).by(rowOf(p))
			}
		}
	}
}

// P7.2: numbers up to the greatest, by squares of x.
func TestUpGreat(t *testing.T) {
	r := rand.New(rand.NewPCG(7, 9))
	numbers := []int{math.MaxInt, math.MaxInt - 1, 1 << 62, 1<<62 - 1, 1<<62 + 1, 1 << 32, 1<<32 - 1, math.MaxInt32, math.MaxInt32 + 1}
	for range 20 {
		numbers = append(numbers, int(r.Uint64()>>1>>r.IntN(40)))
	}
	for _, p := range []uint64{2, 3, 7, 19, 1 << 8, 283, 1 << 56, 1<<57 - 1, ofDegree(r, 56), ofDegree(r, 55), ofDegree(r, 31)} {
		for _, n := range numbers {
			want, square := rowOf(1), rowOf(2)
			for i := range 63 {
				if n>>i&1 == 1 {
					want = want.times(square).by(rowOf(p))
				}
				square = square.times(square).by(rowOf(p))
			}
			if got := up(t, n, p); got != want.number() {
				t.Fatalf("Up(%d, %#x): %#x, not %#x", n, p, got, want.number())
			}
		}
	}
}

// P7.2: x^(m+n) is the product of x^m and x^n; x to the power of what a prime's field has of elements is x.
func TestUpSums(t *testing.T) {
	r := rand.New(rand.NewPCG(7, 10))
	for range 300 {
		p := ofDegree(r, 1+r.IntN(api.MaxDeg))
		m, n := int(r.Uint64()>>2), int(r.Uint64()>>2>>r.IntN(62))
		if got, want := up(t, m+n, p), mul(t, up(t, m, p), up(t, n, p), p); got != want {
			t.Fatalf("Up(%d + %d, %#x): %#x, not %#x", m, n, p, got, want)
		}
	}
	for d, p := range primes() {
		if d <= api.MaxDeg {
			if got, want := up(t, 1<<d, p), mod(t, 2, p); got != want {
				t.Errorf("Up(2^%d, %#x): %#x, not %#x", d, p, got, want)
			}
		}
	}
}

// P7.2, R2: a negative number is ErrArg, with 0 beside it, whatever p is.
func TestUpWrong(t *testing.T) {
	for _, n := range []int{-1, -2, -4, math.MinInt, math.MinInt + 1, math.MinInt32} {
		for _, p := range []uint64{2, 3, 19, 1 << 56, 1<<57 - 1, 0, 1, 1 << 57} {
			if got, e := poly.Up(n, p); got != 0 || e != api.ErrArg {
				t.Errorf("Up(%d, %#x): %#x, %v", n, p, got, e)
			}
		}
	}
}

// primes returns a prime of each degree, as published tables of primes with few powers have them.
func primes() map[int]uint64 {
	m := map[int]uint64{}
	for _, powers := range [][]int{
		{1}, {2, 1}, {3, 1}, {4, 1}, {5, 2}, {6, 1}, {7, 1}, {8, 4, 3, 1}, {9, 1}, {10, 3},
		{11, 2}, {12, 3}, {13, 4, 3, 1}, {14, 5}, {15, 1}, {16, 5, 3, 1}, {17, 3}, {18, 3}, {19, 5, 2, 1}, {20, 3},
		{21, 2}, {22, 1}, {23, 5}, {24, 4, 3, 1}, {25, 3}, {26, 4, 3, 1}, {27, 5, 2, 1}, {28, 1}, {29, 2}, {30, 1},
		{31, 3}, {32, 7, 3, 2}, {33, 10}, {34, 7}, {35, 2}, {36, 9}, {37, 6, 4, 1}, {38, 6, 5, 1}, {39, 4}, {40, 5, 4, 3},
		{41, 3}, {42, 7}, {43, 6, 4, 3}, {44, 5}, {45, 4, 3, 1}, {46, 1}, {47, 5}, {48, 5, 3, 2}, {49, 9}, {50, 4, 3, 2},
		{51, 6, 3, 1}, {52, 3}, {53, 6, 2, 1}, {54, 9}, {55, 7}, {56, 7, 4, 2}, {57, 4}, {58, 19}, {59, 7, 4, 2}, {60, 1},
		{61, 5, 2, 1}, {62, 29}, {63, 1},
	} {
		p := uint64(1)
		for _, n := range powers {
			p |= 1 << n
		}
		m[powers[0]] = p
	}
	return m
}

// P7.3: all polynomials of degrees up to 12, of which those are struck that are products.
func TestPrimeSieve(t *testing.T) {
	const top = 1 << 13
	isProduct := make([]bool, top)
	for a := uint64(2); a < 1<<7; a++ {
		for b := a; b < top; b++ {
			if poly.Deg(a)+poly.Deg(b) < 13 {
				isProduct[product(a, b)] = true
			}
		}
	}
	for p := range uint64(top) {
		if got, want := poly.Prime(p), p > 1 && !isProduct[p]; got != want {
			t.Fatalf("Prime(%#x): %v", p, got)
		}
	}
}

// P7.3: of each degree there are as many primes as the formula for them says.
func TestPrimeCount(t *testing.T) {
	for i, want := range []int{2, 1, 2, 3, 6, 9, 18, 30, 56, 99, 186, 335, 630, 1161, 2182} {
		d, got := i+1, 0
		for p := uint64(1) << d; p < 2<<d; p++ {
			if poly.Prime(p) {
				got++
			}
		}
		if got != want {
			t.Errorf("degree %d: %d primes, not %d", d, got, want)
		}
	}
}

// P7.3: a prime of each degree up to MaxDeg; those of a greater degree are not told.
func TestPrimeDegrees(t *testing.T) {
	for d, p := range primes() {
		if got, want := poly.Prime(p), d <= api.MaxDeg; got != want {
			t.Errorf("Prime(%#x), of degree %d: %v", p, d, got)
		}
		// Backwards, a prime's coefficients are those of one.
		back := uint64(0)
		for i := range d + 1 {
			back |= p >> i & 1 << (d - i)
		}
		if got, want := poly.Prime(back), d <= api.MaxDeg; got != want {
			t.Errorf("Prime(%#x), of degree %d: %v", back, d, got)
		}
	}
}

// P7.3: neither 0 nor 1, nor anything beyond MaxDeg.
func TestPrimeWrong(t *testing.T) {
	for _, p := range wrongDivisors() {
		if poly.Prime(p) {
			t.Errorf("Prime(%#x): true", p)
		}
	}
}

// P7.3: products of two primes are none, whatever their degrees: squares, and two of the same degree, too.
func TestPrimeProducts(t *testing.T) {
	l := primes()
	for d := 1; d < api.MaxDeg; d++ {
		for b := 1; b <= api.MaxDeg-d; b++ {
			if p := product(l[d], l[b]); poly.Prime(p) {
				t.Errorf("Prime(%#x), of degrees %d and %d: true", p, d, b)
			}
		}
	}
	// Two unlike primes of one degree, up to half of MaxDeg.
	for d := 2; d <= api.MaxDeg/2; d++ {
		found := []uint64{}
		for p := uint64(1)<<d | 1; len(found) < 3 && p < 2<<d; p += 2 {
			if poly.Prime(p) {
				found = append(found, p)
			}
		}
		for _, a := range found {
			for _, b := range found {
				if p := product(a, b); poly.Prime(p) {
					t.Errorf("Prime(%#x), of %#x and %#x: true", p, a, b)
				}
			}
		}
	}
}

// prime reports whether p is prime, by another test: x^(2^d) is x, and for no part d/q of the degree d there is a common factor of p and x^(2^(d/q)) + x.
func prime(p uint64) bool {
	d, divisor := rowOf(p).degree(), rowOf(p)
	power := rowOf(2).by(divisor)
	for i := 1; i <= d; i++ {
		power = power.times(power).by(divisor)
		rest := power.number() ^ rowOf(2).by(divisor).number()
		if i == d && rest != 0 {
			return false
		}
		if i < d && d%i == 0 && common(divisor, rowOf(rest)).degree() > 0 {
			return false
		}
	}
	return true
}

// common returns the factor of the greatest degree that both have.
func common(a, b row) row {
	for b.degree() >= 0 {
		a, b = b, a.by(b)
	}
	return a
}

// P7.3: random polynomials of all degrees that it is told for, against another test.
func TestPrimeRandom(t *testing.T) {
	r := rand.New(rand.NewPCG(7, 11))
	seen := 0
	for d := 2; d <= api.MaxDeg; d += 3 {
		for range 25 {
			p := ofDegree(r, d) | 1
			if got, want := poly.Prime(p), prime(p); got != want {
				t.Fatalf("Prime(%#x): %v", p, got)
			} else if got {
				seen++
			}
		}
	}
	if seen == 0 {
		t.Error("no prime among them")
	}
}

// P7.4: remainders have smaller degrees than the divisor, and are equal for what differs by a multiple of it.
func TestRemainders(t *testing.T) {
	r := rand.New(rand.NewPCG(7, 12))
	for range 3000 {
		d := r.IntN(64)
		p, a := ofDegree(r, d), any64(r)
		m := mod(t, a, p)
		if poly.Deg(m) >= poly.Deg(p) {
			t.Fatalf("Mod(%#x, %#x): %#x", a, p, m)
		}
		multiple := product(p, ofDegree(r, r.IntN(64-d)))
		if got := mod(t, a^multiple, p); got != m {
			t.Fatalf("Mod(%#x, %#x): %#x; with a multiple more: %#x", a, p, m, got)
		}
		if d < 1 || d > api.MaxDeg {
			continue
		}
		b := any64(r)
		prod := mul(t, a, b, p)
		if poly.Deg(prod) >= d || mul(t, a^multiple, b, p) != prod || mul(t, a, b^multiple, p) != prod {
			t.Fatalf("Mul(%#x, %#x, %#x): %#x; not so with %#x more", a, b, p, prod, multiple)
		}
		if n := r.IntN(1 << 40); poly.Deg(up(t, n, p)) >= d {
			t.Fatalf("Up(%d, %#x): %#x", n, p, up(t, n, p))
		}
	}
}

// P7.4: multiplication modulo a polynomial is commutative, associative, and distributive.
func TestMulLaws(t *testing.T) {
	r := rand.New(rand.NewPCG(7, 13))
	for range 3000 {
		p := ofDegree(r, 1+r.IntN(api.MaxDeg))
		a, b, c := any64(r), any64(r), any64(r)
		if mul(t, a, b, p) != mul(t, b, a, p) {
			t.Fatalf("not commutative: %#x, %#x, by %#x", a, b, p)
		}
		if mul(t, mul(t, a, b, p), c, p) != mul(t, a, mul(t, b, c, p), p) {
			t.Fatalf("not associative: %#x, %#x, %#x, by %#x", a, b, c, p)
		}
		if mul(t, a^b, c, p) != mul(t, a, c, p)^mul(t, b, c, p) {
			t.Fatalf("not distributive: %#x, %#x, %#x, by %#x", a, b, c, p)
		}
		if mul(t, a, 1, p) != mod(t, a, p) || mul(t, a, 0, p) != 0 {
			t.Fatalf("not as it should be by 1, or 0: %#x, by %#x", a, p)
		}
	}
}
