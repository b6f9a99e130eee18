package octet_test

import (
	"math"
	"math/big"
	"math/rand/v2"
	"slices"
	"strings"
	"testing"

	"maslin/api"
	"maslin/octet"
)

// P1.1: numbers in n bytes, the lowest one first.
func TestPut(t *testing.T) {
	for _, x := range []struct {
		v uint64
		n int
		s string
	}{
		{258, 2, "\x02\x01"},
		{0, 1, "\x00"},
		{255, 1, "\xff"},
		{256, 2, "\x00\x01"},
		{7, 3, "\x07\x00\x00"},
		{0x0807060504030201, 8, "\x01\x02\x03\x04\x05\x06\x07\x08"},
		{math.MaxUint64, 8, "\xff\xff\xff\xff\xff\xff\xff\xff"},
		{0, 8, "\x00\x00\x00\x00\x00\x00\x00\x00"},
	} {
		if s, e := octet.Put(x.v, x.n); s != x.s || e != api.OK {
			t.Errorf("Put(%d, %d): %q, %v", x.v, x.n, s, e)
		}
	}
}

// P1.1: n of 0 and 9, and whatever else is out of its range, with numbers great and small.
func TestPutWrongSize(t *testing.T) {
	for _, n := range []int{0, 9, -1, 10, math.MinInt, math.MaxInt} {
		for _, v := range []uint64{0, 1, math.MaxUint64} {
			if s, e := octet.Put(v, n); s != "" || e != api.ErrArg {
				t.Errorf("Put(%d, %d): %q, %v", v, n, s, e)
			}
		}
	}
}

// P1.1: the greatest number of each size, and the one behind it.
func TestPutGreatest(t *testing.T) {
	for n := 1; n <= 8; n++ {
		last := uint64(math.MaxUint64) >> (64 - 8*n)
		if s, e := octet.Put(last, n); s != strings.Repeat("\xff", n) || e != api.OK {
			t.Errorf("Put(%d, %d): %q, %v", last, n, s, e)
		}
		if n == 8 {
			continue
		}
		for _, v := range []uint64{last + 1, math.MaxUint64, 1 << 63} {
			if s, e := octet.Put(v, n); s != "" || e != api.ErrArg {
				t.Errorf("Put(%d, %d): %q, %v", v, n, s, e)
			}
		}
	}
}

// P1.1: strings of 1 to 8 bytes are numbers.
func TestGet(t *testing.T) {
	for s, v := range map[string]uint64{
		"\x00":                             0,
		"\xff":                             255,
		"\x02\x01":                         258,
		"\x01\x00\x00":                     1,
		"\x00\x00\x00\x80":                 1 << 31,
		"\x01\x02\x03\x04\x05\x06\x07\x08": 0x0807060504030201,
		"\xff\xff\xff\xff\xff\xff\xff\xff": math.MaxUint64,
	} {
		if got, e := octet.Get(s); got != v || e != api.OK {
			t.Errorf("Get(%q): %d, %v", s, got, e)
		}
	}
}

// P1.1: strings of 0 and 9 bytes, and longer ones, are none.
func TestGetWrongSize(t *testing.T) {
	for _, s := range []string{"", "\x01\x00\x00\x00\x00\x00\x00\x00\x00", strings.Repeat("\xff", 9), strings.Repeat("a", 1000)} {
		if v, e := octet.Get(s); v != 0 || e != api.ErrArg {
			t.Errorf("Get of %d bytes: %d, %v", len(s), v, e)
		}
	}
}

// P1.2: a string behind its length.
func TestText(t *testing.T) {
	for s, want := range map[string]string{
		"ab":                     "\x02\x00ab",
		"":                       "\x00\x00",
		"\x00\xff":               "\x02\x00\x00\xff",
		strings.Repeat("x", 258): "\x02\x01" + strings.Repeat("x", 258),
	} {
		if got, e := octet.Text(s); got != want || e != api.OK {
			t.Errorf("Text(%q): %q, %v", s, got, e)
		}
	}
}

// P1.2: a string of MaxText bytes, and of one more.
func TestTextLongest(t *testing.T) {
	most := strings.Repeat("m", api.MaxText)
	if s, e := octet.Text(most); s != "\xff\xff"+most || e != api.OK {
		t.Errorf("Text of MaxText bytes: %d bytes, %v", len(s), e)
	}
	if s, n, e := octet.Read("\xff\xff" + most + "more"); s != most || n != 2+api.MaxText || e != api.OK {
		t.Errorf("Read of MaxText bytes: %d bytes, %d, %v", len(s), n, e)
	}
	for _, n := range []int{1, 2, 1 << 16} {
		if s, e := octet.Text(most + strings.Repeat("m", n)); s != "" || e != api.ErrLong {
			t.Errorf("Text of %d bytes too many: %d bytes, %v", n, len(s), e)
		}
	}
}

// P1.2: what is behind the string's encoding does not matter.
func TestRead(t *testing.T) {
	for _, s := range []string{"", "a", "ab", "\x00\x00", strings.Repeat("z", 300)} {
		code, _ := octet.Text(s)
		for _, rest := range []string{"", "\x00", "rest", "\xff\xff\xff"} {
			if got, n, e := octet.Read(code + rest); got != s || n != len(code) || e != api.OK {
				t.Errorf("Read(%q): %q, %d, %v", code+rest, got, n, e)
			}
		}
	}
}

// P1.2: bytes that end too early, wherever they do.
func TestReadEnd(t *testing.T) {
	for _, s := range []string{"", "\x00", "\x02\x00a", "\x01\x00", "\x00\x01a", "\xff\xff", "\xff"} {
		if got, n, e := octet.Read(s); got != "" || n != 0 || e != api.ErrEnd {
			t.Errorf("Read(%q): %q, %d, %v", s, got, n, e)
		}
	}
	code, _ := octet.Text(strings.Repeat("y", api.MaxText))
	for _, n := range []int{0, 1, 2, 3, 1000, len(code) - 1} {
		if got, m, e := octet.Read(code[:n]); got != "" || m != 0 || e != api.ErrEnd {
			t.Errorf("Read of %d bytes: %q, %d, %v", n, got, m, e)
		}
	}
}

// P1.3: strings behind their number.
func TestRow(t *testing.T) {
	for _, x := range []struct {
		l []string
		s string
	}{
		{[]string{"a", ""}, "\x02\x00\x01\x00a\x00\x00"},
		{nil, "\x00\x00"},
		{[]string{}, "\x00\x00"},
		{[]string{""}, "\x01\x00\x00\x00"},
		{[]string{"", "ab", "c"}, "\x03\x00\x00\x00\x02\x00ab\x01\x00c"},
		{slices.Repeat([]string{"q"}, 258), "\x02\x01" + strings.Repeat("\x01\x00q", 258)},
	} {
		if s, e := octet.Row(x.l...); s != x.s || e != api.OK {
			t.Errorf("Row(%q): %q, %v", x.l, s, e)
		}
		if l, e := octet.ReadRow(x.s); !slices.Equal(l, x.l) || e != api.OK {
			t.Errorf("ReadRow(%q): %q, %v", x.s, l, e)
		}
	}
}

// P1.3: MaxText strings, and one more.
func TestRowMost(t *testing.T) {
	most := make([]string, api.MaxText)
	most[0], most[api.MaxText-1] = "first", "last"
	s, e := octet.Row(most...)
	if len(s) != 2+2*api.MaxText+9 || s[:9] != "\xff\xff\x05\x00first" || e != api.OK {
		t.Fatalf("Row of MaxText strings: %d bytes, %v", len(s), e)
	}
	if l, e := octet.ReadRow(s); !slices.Equal(l, most) || e != api.OK {
		t.Errorf("ReadRow of MaxText strings: %d strings, %v", len(l), e)
	}
	if s, e := octet.Row(append(most, "")...); s != "" || e != api.ErrLong {
		t.Errorf("Row of one string more: %d bytes, %v", len(s), e)
	}
	if s, e := octet.Row(make([]string, 1<<17)...); s != "" || e != api.ErrLong {
		t.Errorf("Row of many strings more: %d bytes, %v", len(s), e)
	}
}

// P1.3: strings of MaxText bytes, and one that is longer, wherever it stands.
func TestRowLongest(t *testing.T) {
	most := strings.Repeat("m", api.MaxText)
	s, e := octet.Row("a", most, most)
	if want := "\x03\x00\x01\x00a" + strings.Repeat("\xff\xff"+most, 2); s != want || e != api.OK {
		t.Fatalf("Row with MaxText bytes: %d bytes, %v", len(s), e)
	}
	if l, e := octet.ReadRow(s); !slices.Equal(l, []string{"a", most, most}) || e != api.OK {
		t.Errorf("ReadRow with MaxText bytes: %d strings, %v", len(l), e)
	}
	for _, l := range [][]string{{most + "m"}, {"a", most + "m"}, {most + "m", "a"}, {"a", most + "m", most}} {
		if s, e := octet.Row(l...); s != "" || e != api.ErrLong {
			t.Errorf("Row of %d strings, one too long: %d bytes, %v", len(l), len(s), e)
		}
	}
}

// P1.3: bytes that end too early, or have something left.
func TestReadRowForm(t *testing.T) {
	bad := []string{"", "\x00", "\xff\xff", "\x01\x00", "\x01\x00\x00", "\x00\x00\x00", "\x00\x00x", "\x00\x00\x00\x00", "\x01\x00\x05\x00abcd", "\x01\x00\x05\x00abcdef", "\x02\x00\x01\x00a", "\x01\x00\x01\x00a\x00\x00"}
	whole, _ := octet.Row("", "ab", "c", strings.Repeat("d", 300))
	for n := range len(whole) {
		bad = append(bad, whole[:n])
	}
	bad = append(bad, whole+"\x00", whole+whole)
	for _, s := range bad {
		if l, e := octet.ReadRow(s); len(l) != 0 || e != api.ErrForm {
			t.Errorf("ReadRow(%q): %q, %v", s, l, e)
		}
	}
}

// R5: a list that is passed remains as it is, and a list that is returned is a new one.
func TestRowMemory(t *testing.T) {
	l := []string{"a", "b", "spare"}
	s, _ := octet.Row(l[:2]...)
	if !slices.Equal(l, []string{"a", "b", "spare"}) {
		t.Errorf("Row has changed its list: %q", l)
	}
	first, _ := octet.ReadRow(s)
	first[0] = "other"
	if second, _ := octet.ReadRow(s); !slices.Equal(second, []string{"a", "b"}) {
		t.Errorf("ReadRow returned a list that was returned before: %q", second)
	}
}

// P1.4: seven bits per byte, the lowest ones first.
func TestShort(t *testing.T) {
	for v, want := range map[uint64]string{
		0:              "\x00",
		1:              "\x01",
		127:            "\x7f",
		128:            "\x80\x01",
		300:            "\xac\x02",
		16383:          "\xff\x7f",
		16384:          "\x80\x80\x01",
		1<<63 - 1:      "\xff\xff\xff\xff\xff\xff\xff\xff\x7f",
		1 << 63:        "\x80\x80\x80\x80\x80\x80\x80\x80\x80\x01",
		math.MaxUint64: "\xff\xff\xff\xff\xff\xff\xff\xff\xff\x01",
	} {
		if s := octet.Short(v); s != want {
			t.Errorf("Short(%d): %q", v, s)
		}
		for _, rest := range []string{"", "\x00", "\x80", "rest"} {
			if got, n, e := octet.ReadShort(want + rest); got != v || n != len(want) || e != api.OK {
				t.Errorf("ReadShort(%q): %d, %d, %v", want+rest, got, n, e)
			}
		}
	}
}

// P1.4: nine bytes of at least 128 may go on; ten may not, whatever comes behind them.
func TestReadShortWrong(t *testing.T) {
	for s, want := range map[string]api.Errno{
		"":                           api.ErrEnd,
		"\x80":                       api.ErrEnd,
		"\xff\x80":                   api.ErrEnd,
		strings.Repeat("\x80", 9):    api.ErrEnd,
		strings.Repeat("\xff", 9):    api.ErrEnd,
		strings.Repeat("\x80", 10):   api.ErrForm,
		strings.Repeat("\xff", 10):   api.ErrForm,
		strings.Repeat("\x80", 11):   api.ErrForm,
		strings.Repeat("\xff", 1000): api.ErrForm,

		strings.Repeat("\x80", 10) + "\x01":         api.ErrForm,
		"\x80\x00":                                  api.ErrForm,
		"\x80\x00\x01":                              api.ErrForm,
		"\xff\x00":                                  api.ErrForm,
		"\x80\x80\x00":                              api.ErrForm,
		strings.Repeat("\xff", 8) + "\x00":          api.ErrForm,
		strings.Repeat("\xff", 9) + "\x00":          api.ErrForm,
		strings.Repeat("\x80", 9) + "\x00":          api.ErrForm,
		strings.Repeat("\x80", 9) + "\x02":          api.ErrForm,
		strings.Repeat("\xff", 9) + "\x7f":          api.ErrForm,
		strings.Repeat("\xff", 9) + "\x81":          api.ErrForm,
		strings.Repeat("\xff", 9) + "\x80" + "\x00": api.ErrForm,
	} {
		if v, n, e := octet.ReadShort(s); v != 0 || n != 0 || e != want {
			t.Errorf("ReadShort(%q): %d, %d, %v, not %v", s, v, n, e, want)
		}
	}
}

// readShort is the definition, word by word: the number is made without a bound, and its encoding anew.
func readShort(s string) (uint64, int, api.Errno) {
	sum := new(big.Int)
	for i := range len(s) {
		digit := new(big.Int).SetUint64(uint64(s[i] % 128))
		sum.Add(sum, digit.Lsh(digit, uint(7*i)))
		if s[i] >= 128 {
			continue
		}
		if !sum.IsUint64() || octet.Short(sum.Uint64()) != s[:i+1] {
			return 0, 0, api.ErrForm
		}
		return sum.Uint64(), i + 1, api.OK
	}
	if len(s) < 10 {
		return 0, 0, api.ErrEnd
	}
	return 0, 0, api.ErrForm
}

// strs returns all strings of up to n bytes, of those of the alphabet.
func strs(alphabet string, n int) []string {
	all := []string{""}
	for from := 0; n > 0; n-- {
		to := len(all)
		for _, s := range all[from:to] {
			for i := range len(alphabet) {
				all = append(all, s+alphabet[i:i+1])
			}
		}
		from = to
	}
	return all
}

// P1.4, P1.5: every string of some bytes, alone and behind others, is read as the definition says.
func TestReadShortAll(t *testing.T) {
	for _, front := range []string{"", strings.Repeat("\x80", 7), strings.Repeat("\xff", 8)} {
		for _, back := range strs("\x00\x01\x02\x7f\x80\x81\xff", 4) {
			s := front + back
			v, n, e := octet.ReadShort(s)
			if w, m, f := readShort(s); v != w || n != m || e != f {
				t.Fatalf("ReadShort(%q): %d, %d, %v, not %d, %d, %v", s, v, n, e, w, m, f)
			}
			if e == api.OK && octet.Short(v) != s[:n] {
				t.Fatalf("Short(%d): not %q", v, s[:n])
			}
		}
	}
}

// edges returns numbers about each power of two, and others.
func edges() []uint64 {
	var l []uint64
	for i := range 64 {
		l = append(l, 1<<i-1, 1<<i, 1<<i+1)
	}
	r := rand.New(rand.NewPCG(1, 5))
	for range 2000 {
		l = append(l, r.Uint64()>>r.UintN(64))
	}
	return append(l, math.MaxUint64)
}

// P1.5: numbers are what they were behind Put and Get, and behind Short and ReadShort.
func TestNumbersBack(t *testing.T) {
	for _, v := range edges() {
		for n := 1; n <= 8; n++ {
			s, e := octet.Put(v, n)
			if fits := n == 8 || v < 1<<(8*n); fits != (e == api.OK) {
				t.Fatalf("Put(%d, %d): %v", v, n, e)
			}
			if e != api.OK {
				continue
			}
			if got, e := octet.Get(s); got != v || e != api.OK {
				t.Fatalf("Get(Put(%d, %d)): %d, %v", v, n, got, e)
			}
		}
		s := octet.Short(v)
		if got, n, e := octet.ReadShort(s); got != v || n != len(s) || e != api.OK {
			t.Fatalf("ReadShort(Short(%d)): %d, %d, %v", v, got, n, e)
		}
	}
}

// P1.5: bytes that are a number's, or a string's, are what they were behind decoding and encoding.
func TestBytesBack(t *testing.T) {
	for _, s := range strs("\x00\x01\x7f\x80\xff", 5) {
		if v, e := octet.Get(s); e == api.OK {
			if got, e := octet.Put(v, len(s)); got != s || e != api.OK {
				t.Fatalf("Put(Get(%q)): %q, %v", s, got, e)
			}
		}
		if x, n, e := octet.Read(s); e == api.OK {
			if got, e := octet.Text(x); got != s[:n] || e != api.OK {
				t.Fatalf("Text(Read(%q)): %q, %v", s, got, e)
			}
		}
	}
}

// Encodings of so few bytes have no length that the alphabet lacks.
const (
	size     = 7
	alphabet = "\x00\x01\x02\x03"
)

// lists calls each with every list whose encoding has at most n bytes more than l's, with l as its beginning.
func lists(l []string, n int, each func([]string)) {
	each(l)
	if n < 2 {
		return
	}
	for _, s := range strs(alphabet, n-2) {
		lists(append(l[:len(l):len(l)], s), n-2-len(s), each)
	}
}

// P1.3, P1.5: different lists have different encodings, and no other bytes are a list's.
func TestListsAll(t *testing.T) {
	coded := map[string][]string{}
	lists(nil, size-2, func(l []string) {
		s, e := octet.Row(l...)
		if e != api.OK || len(s) > size {
			t.Fatalf("Row(%q): %q, %v", l, s, e)
		}
		if other, ok := coded[s]; ok {
			t.Fatalf("%q and %q have one encoding", l, other)
		}
		coded[s] = l
	})
	met := 0
	for _, s := range strs(alphabet, size) {
		l, e := octet.ReadRow(s)
		want, ok := coded[s]
		if !ok {
			if len(l) != 0 || e != api.ErrForm {
				t.Fatalf("ReadRow(%q): %q, %v", s, l, e)
			}
			continue
		}
		met++
		if !slices.Equal(l, want) || e != api.OK {
			t.Fatalf("ReadRow(%q): %q, %v", s, l, e)
		}
	}
	if met != len(coded) {
		t.Errorf("of %d encodings %d were met", len(coded), met)
	}
}

// P1.5: lists of any bytes are what they were behind Row and ReadRow.
func TestListsBack(t *testing.T) {
	r := rand.New(rand.NewPCG(1, 3))
	for range 500 {
		l := make([]string, r.IntN(20))
		for i := range l {
			b := make([]byte, r.IntN(1<<r.IntN(11)))
			for j := range b {
				b[j] = byte(r.Uint32())
			}
			l[i] = string(b)
		}
		s, e := octet.Row(l...)
		if e != api.OK {
			t.Fatalf("Row of %d strings: %v", len(l), e)
		}
		if got, e := octet.ReadRow(s); !slices.Equal(got, l) || e != api.OK {
			t.Fatalf("ReadRow(Row(%q)): %q, %v", l, got, e)
		}
	}
}
