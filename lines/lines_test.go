package lines_test

import (
	"math"
	"math/rand/v2"
	"slices"
	"strings"
	"testing"
	"time"
	"unsafe"

	"maslin/api"
	"maslin/chunk"
	"maslin/lines"
)

// some is a valid cutter, of which tests change one part.
var some = api.Cutter{Poly: 1<<53 | 1<<6 | 1<<2 | 1<<1 | 1, Window: 16, Min: 20, Max: 80, Bits: 4}

// with returns some, changed.
func with(change func(c *api.Cutter)) api.Cutter {
	c := some
	change(&c)
	return c
}

// wrongCutters returns cutters that are not valid.
func wrongCutters() []api.Cutter {
	return []api.Cutter{
		{},
		with(func(c *api.Cutter) { c.Poly = 255 }),
		with(func(c *api.Cutter) { c.Poly = 1 << 57 }),
		with(func(c *api.Cutter) { c.Window = 0 }),
		with(func(c *api.Cutter) { c.Window = -1 }),
		with(func(c *api.Cutter) { c.Window, c.Min = api.MaxWindow+1, api.MaxWindow+1 }),
		with(func(c *api.Cutter) { c.Min = c.Window - 1 }),
		with(func(c *api.Cutter) { c.Min = c.Max + 1 }),
		with(func(c *api.Cutter) { c.Max = c.Min - 1 }),
		with(func(c *api.Cutter) { c.Max = api.MaxPiece + 1 }),
		with(func(c *api.Cutter) { c.Max = math.MaxInt }),
		with(func(c *api.Cutter) { c.Window, c.Min, c.Max = 0, 0, 0 }),
		with(func(c *api.Cutter) { c.Window, c.Min, c.Max = math.MinInt, math.MinInt, math.MinInt }),
		with(func(c *api.Cutter) { c.Bits = -1 }),
		with(func(c *api.Cutter) { c.Bits = 17 }),
		with(func(c *api.Cutter) { c.Bits = 1<<32 + 4 }),
	}
}

// rightCutters returns valid cutters, the edges among them.
func rightCutters() []api.Cutter {
	return []api.Cutter{
		some,
		{Poly: 283, Window: 1, Min: 1, Max: 1},
		{Poly: 256, Window: 1, Min: 1, Max: api.MaxPiece, Bits: 16},
		{Poly: 1<<57 - 1, Window: api.MaxWindow, Min: api.MaxWindow, Max: api.MaxWindow, Bits: 1},
		{Poly: 1<<57 - 1, Window: api.MaxWindow, Min: api.MaxPiece, Max: api.MaxPiece},
	}
}

// cutter returns a random valid cutter, with pieces of few bytes.
func cutter(r *rand.Rand) api.Cutter {
	window := 1 + r.IntN([]int{3, 10, api.MaxWindow}[r.IntN(3)])
	least := window + r.IntN(8)*r.IntN(4)
	d := 8 + r.IntN(api.MaxDeg-7)
	return api.Cutter{
		Poly:   1<<d | r.Uint64()&(1<<d-1),
		Window: window,
		Min:    least,
		Max:    least + r.IntN(20)*r.IntN(4),
		Bits:   r.IntN(7),
	}
}

// text returns n random bytes, of which one in every few is a byte 10.
func text(r *rand.Rand, n, every int) string {
	b := make([]byte, n)
	for i := range b {
		b[i] = byte(r.Uint32())
		if r.IntN(every) == 0 {
			b[i] = 10
		}
	}
	return string(b)
}

// eachText calls f with each string of at most n bytes that are a or 10.
func eachText(n int, f func(s string)) {
	for k := range n + 1 {
		for v := range 1 << k {
			b := make([]byte, k)
			for i := range b {
				b[i] = 'a'
				if v>>i&1 == 1 {
					b[i] = 10
				}
			}
			f(string(b))
		}
	}
}

// recordsOf returns the records of s, as the definition has them: byte by byte.
func recordsOf(s string) []string {
	var l []string
	record := []byte{}
	for i := range len(s) {
		record = append(record, s[i])
		if s[i] == 10 || i == len(s)-1 {
			l = append(l, string(record))
			record = []byte{}
		}
	}
	return l
}

// alignedTo tells whether a position of s, from 0 to its length, is one that others are aligned to.
func alignedTo(s string, at int) bool {
	return at == len(s) || at > 0 && s[at-1] == 10
}

// alignOf returns the position to which at is aligned, as the definition has it.
func alignOf(s string, at int) int {
	if at < 1 {
		at = 1
	}
	if at > len(s) {
		return len(s)
	}
	for !alignedTo(s, at) {
		at++
	}
	return at
}

// plainCuts returns the cuts of layer 9.
func plainCuts(t *testing.T, c api.Cutter, s string) []int {
	t.Helper()
	l, e := chunk.Cut(c, s)
	if e != api.OK {
		t.Fatalf("chunk.Cut(%v, %d bytes): %v", c, len(s), e)
	}
	var ends []int
	for _, p := range l {
		ends = append(ends, p.At+p.Len)
	}
	return ends
}

// cutsOf returns the aligned cuts of s, as the definition has them.
func cutsOf(t *testing.T, c api.Cutter, s string) []int {
	t.Helper()
	var l []int
	for _, cut := range plainCuts(t, c, s) {
		if at := alignOf(s, cut); !slices.Contains(l, at) {
			l = append(l, at)
		}
	}
	return l
}

// cuts returns where the pieces end that Cut returns, and fails if they do not follow one another from 0 on, or there is an error.
func cuts(t *testing.T, c api.Cutter, s string) []int {
	t.Helper()
	l, e := lines.Cut(c, s)
	if e != api.OK {
		t.Fatalf("Cut(%v, %d bytes): %v", c, len(s), e)
	}
	var ends []int
	at := 0
	for i, p := range l {
		if p.At != at {
			t.Fatalf("Cut(%v, %d bytes): piece %d at %d, not %d", c, len(s), i, p.At, at)
		}
		at += p.Len
		ends = append(ends, at)
	}
	return ends
}

// texts returns those of Texts, and fails if there is an error.
func texts(t *testing.T, c api.Cutter, s string) []string {
	t.Helper()
	l, e := lines.Texts(c, s)
	if e != api.OK {
		t.Fatalf("Texts(%v, %d bytes): %v", c, len(s), e)
	}
	return l
}

// cutAs fails unless Cut and Texts return what follows from these cuts.
func cutAs(t *testing.T, c api.Cutter, s string, ends []int) {
	t.Helper()
	if got := cuts(t, c, s); !slices.Equal(got, ends) {
		t.Fatalf("Cut(%v, %q): ends %v, not %v", c, s, got, ends)
	}
	var parts []string
	at := 0
	for _, end := range ends {
		parts = append(parts, s[at:end])
		at = end
	}
	if got := texts(t, c, s); !slices.Equal(got, parts) {
		t.Fatalf("Texts(%v, %q): %q, not %q", c, s, got, parts)
	}
}

// recordsAs fails unless Records and Longest return what follows from these records.
func recordsAs(t *testing.T, s string, want []string) {
	t.Helper()
	if got := lines.Records(s); !slices.Equal(got, want) {
		t.Fatalf("Records(%q): %q, not %q", s, got, want)
	}
	longest := 0
	for _, x := range want {
		if len(x) > longest {
			longest = len(x)
		}
	}
	if got := lines.Longest(s); got != longest {
		t.Fatalf("Longest(%q): %d, not %d", s, got, longest)
	}
}

// The chapter's examples.
func TestExamples(t *testing.T) {
	const s = "ab\nc\nd"
	if l := lines.Records(s); !slices.Equal(l, []string{"ab\n", "c\n", "d"}) {
		t.Errorf("Records: %q", l)
	}
	c := api.Cutter{Poly: 283, Window: 1, Min: 1, Max: 1}
	if l, e := lines.Cut(c, s); !slices.Equal(l, []api.Piece{{At: 0, Len: 3}, {At: 3, Len: 2}, {At: 5, Len: 1}}) || e != api.OK {
		t.Errorf("Cut: %v, %v", l, e)
	}
	if l := texts(t, c, s); !slices.Equal(l, []string{"ab\n", "c\n", "d"}) {
		t.Errorf("Texts: %q", l)
	}
	if n := lines.Align(s, 4); n != 5 {
		t.Errorf("Align: %d", n)
	}
}

// P10.1: all short strings; an empty one has no record, and none is longest.
func TestRecordsShort(t *testing.T) {
	eachText(12, func(s string) { recordsAs(t, s, recordsOf(s)) })
	if l := lines.Records(""); len(l) > 0 {
		t.Errorf("Records of no byte: %q", l)
	}
	if n := lines.Longest(""); n != 0 {
		t.Errorf("Longest of no byte: %d", n)
	}
}

// P10.1: only a byte 10 ends a record, whether or not the bytes are UTF-8.
func TestRecordsBytes(t *testing.T) {
	for b := range 256 {
		x := string([]byte{byte(b)})
		if b == 10 {
			recordsAs(t, "a"+x+"b"+x+x, []string{"a\n", "b\n", "\n"})
			continue
		}
		recordsAs(t, x, []string{x})
		recordsAs(t, "a"+x+"b"+x+x, []string{"a" + x + "b" + x + x})
		recordsAs(t, x+"\n"+x, []string{x + "\n", x})
		recordsAs(t, "\n"+x+"\n", []string{"\n", x + "\n"})
	}
	recordsAs(t, "a\r\nb\r\n\r\n", []string{"a\r\n", "b\r\n", "\r\n"})
	recordsAs(t, "a\n\rb", []string{"a\n", "\rb"})
	recordsAs(t, "a\u0085b\u2028c\u2029d\u010ae\u0a0a", []string{"a\u0085b\u2028c\u2029d\u010ae\u0a0a"})
	recordsAs(t, "\xe2\x80\n\xa8\xc0\x8a\n", []string{"\xe2\x80\n", "\xa8\xc0\x8a\n"})
}

// P10.1: strings of any bytes, with many records, and with few.
func TestRecordsRandom(t *testing.T) {
	r := rand.New(rand.NewPCG(10, 1))
	for range 300 {
		s := text(r, r.IntN(2000), 1+r.IntN(200))
		recordsAs(t, s, recordsOf(s))
	}
}

// P10.1: the longest record may stand anywhere, and end with the string; its byte 10 counts.
func TestLongest(t *testing.T) {
	for _, x := range []struct {
		s string
		n int
	}{
		{"a", 1},
		{"\n", 1},
		{"\n\n\n", 1},
		{"ab", 2},
		{"a\n", 2},
		{"ab\ncd", 3},
		{"ab\ncde", 3},
		{"ab\ncdef", 4},
		{"ab\ncdef\ng\n", 5},
		{"abcdefg\nb\n\n", 8},
		{strings.Repeat("a\n", 1000) + strings.Repeat("b", 1<<20) + "\n" + strings.Repeat("c", 1<<20), 1<<20 + 1},
	} {
		if n := lines.Longest(x.s); n != x.n {
			t.Errorf("Longest(%d bytes): %d, not %d", len(x.s), n, x.n)
		}
	}
}

// P10.1: each position of all short strings, and those beyond them.
func TestAlignShort(t *testing.T) {
	eachText(10, func(s string) {
		for at := -3; at <= len(s)+3; at++ {
			if got, want := lines.Align(s, at), alignOf(s, at); got != want {
				t.Fatalf("Align(%q, %d): %d, not %d", s, at, got, want)
			}
		}
	})
}

// P10.1: less than 1 is as 1, and what is beyond the string as its length, however far.
func TestAlignFar(t *testing.T) {
	for _, x := range []struct {
		s          string
		first, end int
	}{
		{"", 0, 0},
		{"a", 1, 1},
		{"\n", 1, 1},
		{"\n\n", 1, 2},
		{"ab", 2, 2},
		{"ab\nc\nd", 3, 6},
		{"\nab", 1, 3},
		{"ab\n", 3, 3},
	} {
		for _, at := range []int{1, 0, -1, -2, -3, -100, math.MinInt32, -1 << 32, 1 - 1<<32, 3 - 1<<32, math.MinInt, math.MinInt + 1, math.MinInt + 2} {
			if n := lines.Align(x.s, at); n != x.first {
				t.Errorf("Align(%q, %d): %d, not %d", x.s, at, n, x.first)
			}
		}
		for _, at := range []int{len(x.s), len(x.s) + 1, len(x.s) + 2, 100, math.MaxInt32, 1 << 32, 1<<32 + 1, 1<<32 + 2, math.MaxInt - 1, math.MaxInt} {
			if n := lines.Align(x.s, at); n != x.end {
				t.Errorf("Align(%q, %d): %d, not %d", x.s, at, n, x.end)
			}
		}
	}
}

// P10.1: each position of strings of any bytes.
func TestAlignRandom(t *testing.T) {
	r := rand.New(rand.NewPCG(10, 2))
	for range 100 {
		s := text(r, r.IntN(300), 1+r.IntN(100))
		for at := -1; at <= len(s)+1; at++ {
			if got, want := lines.Align(s, at), alignOf(s, at); got != want {
				t.Fatalf("Align(%q, %d): %d, not %d", s, at, got, want)
			}
		}
	}
}

// P10.2, R2: what is not valid is ErrArg, with nothing beside it, even for an empty string.
func TestWrongCutters(t *testing.T) {
	for _, c := range wrongCutters() {
		for _, s := range []string{"", "a", "\n", strings.Repeat("abc\n", 50)} {
			if l, e := lines.Cut(c, s); len(l) > 0 || e != api.ErrArg {
				t.Errorf("Cut(%v, %d bytes): %v, %v", c, len(s), l, e)
			}
			if l, e := lines.Texts(c, s); len(l) > 0 || e != api.ErrArg {
				t.Errorf("Texts(%v, %d bytes): %v, %v", c, len(s), l, e)
			}
		}
	}
}

// P10.2: an empty string has no piece; one record is one piece, with any cutter.
func TestOneRecord(t *testing.T) {
	for _, c := range rightCutters() {
		cutAs(t, c, "", nil)
		for _, n := range []int{1, 2, 20, 79, 80, 81, api.MaxPiece, api.MaxPiece + 1, 3*api.MaxPiece + 5} {
			cutAs(t, c, strings.Repeat("a", n), []int{n})
			cutAs(t, c, strings.Repeat("a", n-1)+"\n", []int{n})
		}
	}
}

// P10.2: all short strings, each with cutters that cut everywhere, at every few bytes, or by what stands there.
func TestCutShort(t *testing.T) {
	var all []api.Cutter
	for least := 1; least < 4; least++ {
		for most := least; most < 6; most++ {
			for bits := range 3 {
				all = append(all, api.Cutter{Poly: 283, Window: 1, Min: least, Max: most, Bits: bits})
			}
		}
	}
	eachText(9, func(s string) {
		for _, c := range all {
			cutAs(t, c, s, cutsOf(t, c, s))
		}
	})
}

// P10.2: a cut stays if a record ends there, and goes to the end of its record if not; several to one end are one cut.
func TestCutEdges(t *testing.T) {
	// Each piece of layer 9 has three bytes.
	c := api.Cutter{Poly: 283, Window: 3, Min: 3, Max: 3}
	for _, x := range []struct {
		s    string
		ends []int
	}{
		{"\n", []int{1}},
		{"\n\n", []int{2}},
		{"\n\n\n", []int{3}},
		{"\n\n\n\n", []int{3, 4}},
		{"ab\ncd\n", []int{3, 6}},
		{"ab\ncd\ne", []int{3, 6, 7}},
		{"abc\nd\n", []int{4, 6}},
		{"abc\nde\n", []int{4, 7}},
		{"abc\nde\nf", []int{4, 7, 8}},
		{"abc\ndef\ng", []int{4, 8, 9}},
		{"a\nc\n\n\n", []int{4, 6}},
		{"abcdefgh\n", []int{9}},
		{"abcdefgh\n\n\n\n", []int{9, 12}},
		{"abcdefgh\n\n\n", []int{9, 11}},
		{"abcdefg\nhi\n", []int{8, 11}},
		{"abcdefg\n\n\n", []int{8, 9, 10}},
		{"\nabcde", []int{6}},
		{"a\nb\nc\nd\ne\n", []int{4, 6, 10}},
	} {
		cutAs(t, c, x.s, x.ends)
	}
}

// P10.2: random cutters and strings, with many records, and with few.
func TestCutRandom(t *testing.T) {
	r := rand.New(rand.NewPCG(10, 3))
	for range 1500 {
		c := cutter(r)
		s := text(r, r.IntN(1000), 1+r.IntN(100))
		cutAs(t, c, s, cutsOf(t, c, s))
	}
}

// P10.2: with pieces of one byte the pieces are the records.
func TestCutEach(t *testing.T) {
	r := rand.New(rand.NewPCG(10, 4))
	c := api.Cutter{Poly: 283, Window: 1, Min: 1, Max: 1, Bits: 5}
	for range 200 {
		s := text(r, r.IntN(1000), 1+r.IntN(100))
		if got := texts(t, c, s); !slices.Equal(got, recordsOf(s)) {
			t.Fatalf("Texts(%q): %q", s, got)
		}
	}
}

// P10.2, R1: a record with very many cuts is gone over once, not once for each of them.
func TestLongRecord(t *testing.T) {
	const n = 1 << 22
	c := api.Cutter{Poly: 283, Window: 1, Min: 1, Max: 1}
	done := make(chan []api.Piece)
	go func() {
		l, _ := lines.Cut(c, strings.Repeat("a", n)+"\n\n")
		done <- l
	}()
	select {
	case l := <-done:
		if !slices.Equal(l, []api.Piece{{At: 0, Len: n + 1}, {At: n + 1, Len: 1}}) {
			t.Errorf("%d pieces", len(l))
		}
	case <-time.After(40 * time.Second):
		t.Error("a record of 4 MiB takes too long")
	}
}

// P10.3: the pieces are the string, each of whole records, and with fewer bytes than Max and the longest record have.
func TestPieces(t *testing.T) {
	r := rand.New(rand.NewPCG(10, 5))
	for range 500 {
		c := cutter(r)
		s := text(r, r.IntN(2000), 1+r.IntN(300))
		l := texts(t, c, s)
		if strings.Join(l, "") != s {
			t.Fatalf("Texts(%v): not the string", c)
		}
		var all []string
		for _, x := range l {
			if len(x) == 0 || len(x) >= c.Max+lines.Longest(s) {
				t.Fatalf("Texts(%v): %d bytes, with a longest record of %d", c, len(x), lines.Longest(s))
			}
			all = append(all, lines.Records(x)...)
		}
		if !slices.Equal(all, recordsOf(s)) {
			t.Fatalf("Texts(%v): no whole records", c)
		}
	}
}

// P10.3: a piece may have as many bytes as that, less one.
func TestPieceMost(t *testing.T) {
	for _, n := range []int{1, 2, 50, api.MaxPiece} {
		for _, long := range []int{1, 2, 7, 5000} {
			c := api.Cutter{Poly: 283, Window: 1, Min: n, Max: n}
			s := strings.Repeat("\n", n-1) + strings.Repeat("a", long-1) + "\n"
			cutAs(t, c, s+"b", []int{n + long - 1, n + long})
			if got := lines.Longest(s); got != long {
				t.Errorf("Longest: %d, not %d", got, long)
			}
		}
	}
}

// from returns those of the cuts that are at least at, counted from start.
func from(ends []int, at, start int) []int {
	var l []int
	for _, end := range ends {
		if end >= at {
			l = append(l, end-start)
		}
	}
	return l
}

// P10.3: from a cut on that layer 9 has at one position of a common suffix all aligned cuts are the same.
func TestSuffix(t *testing.T) {
	r := rand.New(rand.NewPCG(10, 6))
	met := 0
	for range 400 {
		c := cutter(r)
		every := 1 + r.IntN(100)
		a, b, end := text(r, r.IntN(100), every), text(r, r.IntN(100), every), text(r, 1000, every)
		x, y := plainCuts(t, c, a+end), plainCuts(t, c, b+end)
		for at := 1; at <= len(end); at++ {
			if !slices.Contains(x, len(a)+at) || !slices.Contains(y, len(b)+at) {
				continue
			}
			met++
			got, want := from(cuts(t, c, a+end), len(a)+at, len(a)), from(cuts(t, c, b+end), len(b)+at, len(b))
			if !slices.Equal(got, want) || len(got) == 0 || got[0] != alignOf(end, at) {
				t.Fatalf("Cut(%v): from %d on: %v and %v", c, at, got, want)
			}
			break
		}
	}
	if met < 300 {
		t.Errorf("only %d pairs of strings have a cut in common", met)
	}
}

// within tells whether the memory of part is a part of that of s.
func within(s, part string) bool {
	at, first := uintptr(unsafe.Pointer(unsafe.StringData(part))), uintptr(unsafe.Pointer(unsafe.StringData(s)))
	return at >= first && at < first+uintptr(len(s))
}

// R5, R6: each call returns the same, in new memory.
func TestApart(t *testing.T) {
	s := text(rand.New(rand.NewPCG(10, 7)), 1000, 20)
	for range 3 {
		k, p, l := lines.Records(s), cuts(t, some, s), texts(t, some, s)
		for _, x := range slices.Concat(k, l) {
			if within(s, x) {
				t.Fatalf("%q is a part of the argument", x)
			}
		}
		pieces, _ := lines.Cut(some, s)
		clear(pieces)
		clear(lines.Records(s))
		clear(texts(t, some, s))
		cuts(t, api.Cutter{Poly: 283, Window: 1, Min: 1, Max: 1}, "oth\ner")
		if !slices.Equal(k, lines.Records(s)) || !slices.Equal(p, cuts(t, some, s)) || !slices.Equal(l, texts(t, some, s)) {
			t.Fatal("another result than before")
		}
	}
}
