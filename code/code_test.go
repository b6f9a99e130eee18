package code_test

import (
	"math/rand/v2"
	"slices"
	"strconv"
	"strings"
	"testing"
	"time"
	"unsafe"

	"maslin/api"
	"maslin/code"
)

// opNames returns the names, as the definition has them: from the Op 1 on.
func opNames() []string {
	return strings.Fields("text num in cat len part parse show add mul less same not drop dup swap get set if else end each emit")
}

// argOps returns the Ops that have an Arg.
func argOps() []uint8 {
	return []uint8{api.OpText, api.OpNum, api.OpIn, api.OpGet, api.OpSet, api.OpEach}
}

// isIns reports whether x is an instruction, as the definition has it.
func isIns(x api.Ins) bool {
	return x.Op >= 1 && x.Op <= 23 && (x.Arg == 0 || slices.Contains(argOps(), x.Op))
}

// allPairs returns all pairs of an Op and an Arg, whether they are instructions or not.
func allPairs() []api.Ins {
	var l []api.Ins
	for op := range 256 {
		for arg := range 256 {
			l = append(l, api.Ins{Op: uint8(op), Arg: uint8(arg)})
		}
	}
	return l
}

// allIns returns all instructions.
func allIns() []api.Ins {
	return slices.DeleteFunc(allPairs(), func(x api.Ins) bool { return !isIns(x) })
}

// lineOf returns the line of the instruction x, as the definition has it.
func lineOf(x api.Ins) string {
	name := opNames()[x.Op-1]
	if slices.Contains(argOps(), x.Op) {
		return name + " " + strconv.Itoa(int(x.Arg))
	}
	return name
}

// isProg reports whether p is a program, as the definition has it.
func isProg(p api.Prog) bool {
	return len(p.Texts) <= 16 && len(p.Code) <= 256 &&
		!slices.ContainsFunc(p.Texts, func(t string) bool { return len(t) > 64 }) &&
		!slices.ContainsFunc(p.Code, func(x api.Ins) bool { return !isIns(x) })
}

// encoded returns what the encoding of p would be, as the definition has it, as far as numbers fit into their bytes; p need not be a program.
func encoded(p api.Prog) string {
	b := []byte{byte(len(p.Texts))}
	for _, t := range p.Texts {
		b = append(append(b, byte(len(t))), t...)
	}
	b = append(b, byte(len(p.Code)%256), byte(len(p.Code)/256))
	for _, x := range p.Code {
		b = append(b, x.Op, x.Arg)
	}
	return string(b)
}

// same reports whether p and q are the same: a nil list and an empty one are.
func same(p, q api.Prog) bool {
	return slices.Equal(p.Texts, q.Texts) && slices.Equal(p.Code, q.Code)
}

// zero reports whether p is what stands beside an error.
func zero(p api.Prog) bool {
	return len(p.Texts) == 0 && len(p.Code) == 0
}

// refused fails unless p is no program for Check, nor for Put, and what its encoding would be none for Get, if that has room for its numbers.
func refused(t *testing.T, what string, p api.Prog) {
	t.Helper()
	if e := code.Check(p); e != api.ErrArg {
		t.Errorf("Check, %s: %v", what, e)
	}
	if s, e := code.Put(p); s != "" || e != api.ErrArg {
		t.Errorf("Put, %s: %d bytes, %v", what, len(s), e)
	}
	if len(p.Texts) > 255 || len(p.Code) > 65535 || slices.ContainsFunc(p.Texts, func(t string) bool { return len(t) > 255 }) {
		return
	}
	noProgram(t, what, encoded(p))
}

// noProgram fails unless s is no program's encoding for Get.
func noProgram(t *testing.T, what, s string) {
	t.Helper()
	if p, e := code.Get(s); !zero(p) || e != api.ErrForm {
		t.Errorf("Get, %s: %d strings, %d instructions, %v", what, len(p.Texts), len(p.Code), e)
	}
}

// accepted fails unless p is a program for Check, Put has its encoding, and Get has it of that.
func accepted(t *testing.T, what string, p api.Prog) {
	t.Helper()
	if e := code.Check(p); e != api.OK {
		t.Errorf("Check, %s: %v", what, e)
	}
	want := encoded(p)
	if s, e := code.Put(p); s != want || e != api.OK {
		t.Errorf("Put, %s: %q, %v, not %q", what, s, e, want)
	}
	if q, e := code.Get(want); !same(p, q) || e != api.OK {
		t.Errorf("Get, %s: %q, %v, not %q", what, q, e, p)
	}
}

// noLine fails unless s is no instruction's line.
func noLine(t *testing.T, s string) {
	t.Helper()
	if x, e := code.Read(s); x != (api.Ins{}) || e != api.ErrForm {
		t.Errorf("Read(%q): %v, %v", s, x, e)
	}
}

// program returns a random program.
func program(r *rand.Rand) api.Prog {
	all := allIns()
	var p api.Prog
	for range r.IntN(api.MaxTexts+1) * r.IntN(2) {
		p.Texts = append(p.Texts, bytes(r, r.IntN(api.MaxConst+1)))
	}
	for range r.IntN([]int{1, 10, api.MaxCode + 1}[r.IntN(3)]) {
		p.Code = append(p.Code, all[r.IntN(len(all))])
	}
	return p
}

// bytes returns n random bytes.
func bytes(r *rand.Rand, n int) string {
	b := make([]byte, n)
	for i := range b {
		b[i] = byte(r.Uint32())
	}
	return string(b)
}

// The chapter's examples.
func TestExamples(t *testing.T) {
	p := api.Prog{Texts: []string{"a"}, Code: []api.Ins{{Op: api.OpText}}}
	if s, e := code.Put(p); s != "\x01\x01a\x01\x00\x01\x00" || e != api.OK {
		t.Errorf("Put: %q, %v", s, e)
	}
	if q, e := code.Get("\x01\x01a\x01\x00\x01\x00"); !same(p, q) || e != api.OK {
		t.Errorf("Get: %v, %v", q, e)
	}
	for s, x := range map[string]api.Ins{"num 7": {Op: api.OpNum, Arg: 7}, "cat": {Op: api.OpCat}} {
		if l, e := code.Line(x); l != s || e != api.OK {
			t.Errorf("Line(%v): %q, %v", x, l, e)
		}
		if y, e := code.Read(s); y != x || e != api.OK {
			t.Errorf("Read(%q): %v, %v", s, y, e)
		}
	}
	noLine(t, "cat 0")
}

// P12.1: programs, and what they are as bytes.
func TestPut(t *testing.T) {
	for _, x := range []struct {
		s string
		p api.Prog
	}{
		{"\x00\x00\x00", api.Prog{}},
		{"\x00\x00\x00", api.Prog{Texts: []string{}, Code: []api.Ins{}}},
		{"\x01\x00\x00\x00", api.Prog{Texts: []string{""}}},
		{"\x02\x00\x00\x00\x00", api.Prog{Texts: []string{"", ""}}},
		{"\x02\x02ab\x01\xff\x00\x00", api.Prog{Texts: []string{"ab", "\xff"}}},
		{"\x01\x02\xc3\xa9\x00\x00", api.Prog{Texts: []string{"\u00e9"}}},
		{"\x00\x01\x00\x17\x00", api.Prog{Code: []api.Ins{{Op: api.OpEmit}}}},
		{"\x00\x02\x00\x02\xff\x04\x00", api.Prog{Code: []api.Ins{{Op: api.OpNum, Arg: 255}, {Op: api.OpCat}}}},
		{"\x01\x03\x00\n\x80\x02\x00\x16\x0a\x01\x09", api.Prog{Texts: []string{"\x00\n\x80"}, Code: []api.Ins{{Op: api.OpEach, Arg: 10}, {Op: api.OpText, Arg: 9}}}},
		{"\x00\x04\x00\x03\x63\x11\x08\x12\xc8\x15\x00", api.Prog{Code: []api.Ins{{Op: api.OpIn, Arg: 99}, {Op: api.OpGet, Arg: 8}, {Op: api.OpSet, Arg: 200}, {Op: api.OpEnd}}}},
	} {
		if e := code.Check(x.p); e != api.OK {
			t.Errorf("Check(%v): %v", x.p, e)
		}
		if s, e := code.Put(x.p); s != x.s || e != api.OK {
			t.Errorf("Put(%v): %q, %v, not %q", x.p, s, e, x.s)
		}
		if p, e := code.Get(x.s); !same(p, x.p) || e != api.OK {
			t.Errorf("Get(%q): %v, %v, not %v", x.s, p, e, x.p)
		}
	}
}

// P12.1: up to the limits there are programs, and none beyond them, each limit alone, and one within the others.
func TestLimits(t *testing.T) {
	long, longer := strings.Repeat("t", api.MaxConst), strings.Repeat("t", api.MaxConst+1)
	most := slices.Repeat([]string{long}, api.MaxTexts)
	full := slices.Repeat([]api.Ins{{Op: api.OpNum, Arg: 255}}, api.MaxCode)
	for _, n := range []int{0, 1, 2, api.MaxTexts - 1, api.MaxTexts} {
		accepted(t, strconv.Itoa(n)+" strings", api.Prog{Texts: make([]string, n)})
		accepted(t, strconv.Itoa(n)+" long strings", api.Prog{Texts: most[:n], Code: full})
	}
	for _, n := range []int{0, 1, 63, api.MaxConst} {
		accepted(t, "a string of "+strconv.Itoa(n)+" bytes", api.Prog{Texts: []string{long[:n]}})
	}
	for _, n := range []int{0, 1, 2, 127, 128, 254, 255, api.MaxCode} {
		accepted(t, strconv.Itoa(n)+" instructions", api.Prog{Code: full[:n]})
		accepted(t, strconv.Itoa(n)+" instructions and strings", api.Prog{Texts: most, Code: full[:n]})
	}
	for _, n := range []int{api.MaxTexts + 1, 32, 128, 255, 256, 256 + 3, 1 << 16, 1<<16 + 1} {
		refused(t, strconv.Itoa(n)+" strings", api.Prog{Texts: make([]string, n)})
		refused(t, strconv.Itoa(n)+" strings and instructions", api.Prog{Texts: slices.Repeat([]string{"a"}, n), Code: full})
	}
	for _, n := range []int{api.MaxConst + 1, 127, 128, 255, 256, 256 + 1, 1 << 16, 1<<32/4096 + 1} {
		s := strings.Repeat("x", n)
		refused(t, "a string of "+strconv.Itoa(n)+" bytes", api.Prog{Texts: []string{s}})
	}
	for i := range most {
		l := slices.Clone(most)
		l[i] = longer
		refused(t, "a string too long at "+strconv.Itoa(i), api.Prog{Texts: l, Code: full})
	}
	for _, n := range []int{api.MaxCode + 1, 511, 512, 513, 32768, 65535, 65536, 65537, 1 << 18} {
		refused(t, strconv.Itoa(n)+" instructions", api.Prog{Code: slices.Repeat([]api.Ins{{Op: api.OpCat}}, n)})
		refused(t, strconv.Itoa(n)+" instructions and strings", api.Prog{Texts: most, Code: slices.Repeat([]api.Ins{{Op: api.OpNum, Arg: 1}}, n)})
	}
}

// P12.1: each pair of an Op and an Arg, wherever it stands: what a program does with it is not asked.
func TestInstructions(t *testing.T) {
	dot := api.Ins{Op: api.OpDup}
	for _, x := range allPairs() {
		for _, l := range [][]api.Ins{{x}, {x, dot, dot}, {dot, x, dot}, {dot, dot, x}} {
			p := api.Prog{Texts: []string{"ab"}, Code: l}
			if what := strconv.Itoa(int(x.Op)) + " " + strconv.Itoa(int(x.Arg)); isIns(x) {
				accepted(t, what, p)
			} else {
				refused(t, what, p)
			}
		}
	}
	full := slices.Repeat([]api.Ins{dot}, api.MaxCode)
	for i := range full {
		for _, x := range []api.Ins{{}, {Op: api.Ops + 1}, {Op: 255}, {Op: api.OpDup, Arg: 1}, {Arg: 1}} {
			l := slices.Clone(full)
			l[i] = x
			refused(t, "one that is none, at "+strconv.Itoa(i), api.Prog{Code: l})
		}
	}
}

// P12.1: several things are wrong at once.
func TestAllWrong(t *testing.T) {
	p := api.Prog{
		Texts: slices.Repeat([]string{strings.Repeat("x", 200)}, 100),
		Code:  slices.Repeat([]api.Ins{{Op: 200, Arg: 200}}, 1000),
	}
	refused(t, "all", p)
	refused(t, "strings and instructions", api.Prog{Texts: p.Texts, Code: p.Code[:1]})
	refused(t, "a string and an instruction", api.Prog{Texts: p.Texts[:1], Code: p.Code[:1]})
}

// P12.1: bytes that end too early, wherever they do, or go on behind the end.
func TestGetForm(t *testing.T) {
	r := rand.New(rand.NewPCG(12, 1))
	for range 200 {
		s := encoded(program(r))
		for n := range len(s) {
			noProgram(t, "too few bytes", s[:n])
		}
		for _, rest := range []string{"\x00", "\x01\x00", "\x17\x00", "\x00\x00\x00", "x", s} {
			noProgram(t, "too many bytes", s+rest)
		}
	}
	for _, s := range []string{
		"", "\x00", "\xff", "\x00\x00", "\x00\x01", "\x00\x00\x00\x00",
		"\x00\x00\x01", "\x00\x01\x00", "\x00\x01\x00\x04", "\x00\x00\x01\x04\x00", "\x00\xff\xff",
		"\x01\x00\x00", "\x01\x01", "\x01\x01\x00\x00", "\x01\xff", "\x01\x40a\x00\x00", "\xff\xff\xff",
		"\x01\x41" + strings.Repeat("a", 65) + "\x00\x00", "\x11" + strings.Repeat("\x00", 17) + "\x00\x00",
		"\x00\x01\x01" + strings.Repeat("\x04\x00", 257), "\x00\x01\x00\x00\x00", "\x00\x01\x00\x18\x00", "\x00\x01\x00\x04\x01",
		strings.Repeat("\xff", 1<<20), strings.Repeat("\x00", 1<<20), strings.Repeat("\x01", 1<<20),
	} {
		noProgram(t, "no encoding", s)
	}
}

// strs returns all strings of up to n bytes, of those of the alphabet.
func strs(alphabet string, n int) []string {
	all := []string{""}
	for from := 0; n > 0; n-- {
		to := len(all)
		for _, s := range all[from:to] {
			for i := range len(alphabet) {
				all = append(all, s+alphabet[i:i+1])
			}
		}
		from = to
	}
	return all
}

// progs returns all programs whose encodings have at most n bytes, which are of the alphabet.
func progs(alphabet string, n int) []api.Prog {
	const heads = 3
	var l []api.Prog
	var code func(p api.Prog, n int)
	code = func(p api.Prog, n int) {
		l = append(l, p)
		if n < 2 {
			return
		}
		for _, s := range strs(alphabet, 2) {
			if len(s) == 2 && isIns(api.Ins{Op: s[0], Arg: s[1]}) {
				q := p
				q.Code = append(p.Code[:len(p.Code):len(p.Code)], api.Ins{Op: s[0], Arg: s[1]})
				code(q, n-2)
			}
		}
	}
	var texts func(p api.Prog, n int)
	texts = func(p api.Prog, n int) {
		code(p, n)
		if n < 1 {
			return
		}
		for _, s := range strs(alphabet, n-1) {
			q := p
			q.Texts = append(p.Texts[:len(p.Texts):len(p.Texts)], s)
			texts(q, n-1-len(s))
		}
	}
	texts(api.Prog{}, n-heads)
	return l
}

// P12.1, P12.3: different programs have different encodings, and no other bytes are a program's.
func TestProgsAll(t *testing.T) {
	const (
		alphabet = "\x00\x01\x02\x03\x04"
		size     = 7
	)
	coded := map[string]api.Prog{}
	for _, p := range progs(alphabet, size) {
		s, e := code.Put(p)
		if e != api.OK || len(s) > size {
			t.Fatalf("Put(%v): %q, %v", p, s, e)
		}
		if q, ok := coded[s]; ok {
			t.Fatalf("%v and %v have one encoding", p, q)
		}
		coded[s] = p
	}
	met := 0
	for _, s := range strs(alphabet, size) {
		p, e := code.Get(s)
		want, ok := coded[s]
		if !ok {
			if !zero(p) || e != api.ErrForm {
				t.Fatalf("Get(%q): %v, %v", s, p, e)
			}
			continue
		}
		met++
		if !same(p, want) || e != api.OK {
			t.Fatalf("Get(%q): %v, %v, not %v", s, p, e, want)
		}
	}
	if met != len(coded) || met < 100 {
		t.Errorf("of %d encodings %d were met", len(coded), met)
	}
}

// P12.1, P12.3: programs are what they were behind Put and Get, and bytes behind Get and Put; a byte that is another one makes another program, or none.
func TestProgsBack(t *testing.T) {
	r := rand.New(rand.NewPCG(12, 3))
	for range 3000 {
		p := program(r)
		accepted(t, "a random one", p)
		b := []byte(encoded(p))
		b[r.IntN(len(b))] ^= byte(1 << r.IntN(8))
		s := string(b)
		q, e := code.Get(s)
		if e != api.OK {
			noProgram(t, "a bit of it changed", s)
			continue
		}
		if !isProg(q) || same(p, q) || encoded(q) != s {
			t.Fatalf("Get(%q): %q", s, q)
		}
		accepted(t, "a bit of it changed", q)
	}
}

// P12.1: a program for Check is one for Put, and its bytes one for Get, however its parts are mixed up.
func TestRandomParts(t *testing.T) {
	r := rand.New(rand.NewPCG(12, 12))
	for range 3000 {
		p := program(r)
		for range r.IntN(3) {
			p.Texts = append(p.Texts, bytes(r, r.IntN(100)))
		}
		for range r.IntN(3) {
			p.Code = append(p.Code, api.Ins{Op: uint8(r.IntN(30)), Arg: uint8(r.IntN(3))})
		}
		if isProg(p) {
			accepted(t, "a mixed one", p)
		} else {
			refused(t, "a mixed one", p)
		}
	}
}

// P12.2: each Op has its name.
func TestNames(t *testing.T) {
	for op, name := range map[uint8]string{
		api.OpText: "text 0", api.OpNum: "num 0", api.OpIn: "in 0", api.OpCat: "cat", api.OpLen: "len", api.OpPart: "part",
		api.OpParse: "parse", api.OpShow: "show", api.OpAdd: "add", api.OpMul: "mul", api.OpLess: "less", api.OpSame: "same",
		api.OpNot: "not", api.OpDrop: "drop", api.OpDup: "dup", api.OpSwap: "swap", api.OpGet: "get 0", api.OpSet: "set 0",
		api.OpIf: "if", api.OpElse: "else", api.OpEnd: "end", api.OpEach: "each 0", api.OpEmit: "emit",
	} {
		if s, e := code.Line(api.Ins{Op: op}); s != name || e != api.OK {
			t.Errorf("Line of %d: %q, %v, not %q", op, s, e, name)
		}
	}
}

// P12.2, P12.3: each pair of an Op and an Arg; different instructions have different lines, and Read has each one of its line.
func TestLinesAll(t *testing.T) {
	lines := map[string]api.Ins{}
	for _, x := range allPairs() {
		s, e := code.Line(x)
		if !isIns(x) {
			if s != "" || e != api.ErrArg {
				t.Fatalf("Line(%v): %q, %v", x, s, e)
			}
			continue
		}
		if want := lineOf(x); s != want || e != api.OK {
			t.Fatalf("Line(%v): %q, %v, not %q", x, s, e, want)
		}
		if y, ok := lines[s]; ok {
			t.Fatalf("%v and %v have one line", x, y)
		}
		lines[s] = x
		if y, e := code.Read(s); y != x || e != api.OK {
			t.Fatalf("Read(%q): %v, %v, not %v", s, y, e, x)
		}
	}
	if len(lines) != 6*256+17 {
		t.Errorf("%d lines", len(lines))
	}
}

// P12.2: what is a line but for one thing is none.
func TestReadForm(t *testing.T) {
	for _, s := range []string{
		"", " ", "0", "1", "7", " 7", " 0", "\n", "\x00", "none", "OpNum 7", "nums 7", "nu 7", "n", "ex", "cats", "ca",
		"num", "num ", "num  7", " num 7", "num 7 ", "num 7\n", "num\t7", "num7", "num 7 7", "num 7 cat", "num,7", "NUM 7", "Num 7",
		"num 07", "num 00", "num 007", "num +7", "num -7", "num -0", "num +0", "num 0x7", "num 0b1", "num 0o7", "num 7.0", "num 7e0", "num 1_0", "num x", "num 7x",
		"num 256", "num 257", "num 263", "num 1000", "num 65536", "num 65543", "num 4294967303", "num 18446744073709551615", "num 18446744073709551616", "num 18446744073709551623", "num -249",
		"num \u0667", "num \uff17", "n\u00fcm 7", "num\u00a07", "num \x007", "num 7\x00",
		"text", "in", "get", "set", "each", "each ,", "each 44,",
		"cat 0", "cat 1", "cat ", " cat", "cat\n", "cat\r\n", "cat cat", "Cat", "CAT", "emit 0", "end 0", "if 1", "else 0", "add 0", "drop 00", "cat\x00",
		strings.Repeat("num ", 1000), "num " + strings.Repeat("0", 1<<20) + "7", "num " + strings.Repeat("9", 1<<20), "num" + strings.Repeat(" ", 1<<20) + "7", strings.Repeat("cat", 1<<18),
	} {
		noLine(t, s)
	}
}

// P12.2: strings near lines, each of which either is an instruction's line, or none.
func TestReadNear(t *testing.T) {
	lines := map[string]api.Ins{}
	for _, x := range allIns() {
		lines[lineOf(x)] = x
	}
	try := func(s string) {
		want, ok := lines[s]
		if !ok {
			noLine(t, s)
			return
		}
		if x, e := code.Read(s); x != want || e != api.OK {
			t.Errorf("Read(%q): %v, %v, not %v", s, x, e, want)
		}
	}
	for s := range lines {
		for i := range len(s) + 1 {
			for _, c := range " 0159+-_xn\x00\n\u00e9" {
				try(s[:i] + string(c) + s[i:])
				if i < len(s) {
					try(s[:i] + string(c) + s[i+1:])
				}
			}
			if i < len(s) {
				try(s[:i] + s[i+1:])
				try(s[:i])
			}
		}
	}
	for _, name := range append(opNames(), "", "x") {
		for _, sep := range []string{"", " ", "  ", "\t"} {
			for n := range 1000 {
				try(name + sep + strconv.Itoa(n))
			}
		}
	}
	for _, s := range strs("dupin 0", 6) {
		try(s)
	}
}

// within reports whether the memory of part is a part of that of s.
func within(s, part string) bool {
	at, first := uintptr(unsafe.Pointer(unsafe.StringData(part))), uintptr(unsafe.Pointer(unsafe.StringData(s)))
	return len(part) > 0 && at >= first && at < first+uintptr(len(s))
}

// R5: what is returned is new memory, and what is passed remains as it is.
func TestApart(t *testing.T) {
	texts, ins := []string{"ab", "cd", "spare"}, []api.Ins{{Op: api.OpText, Arg: 1}, {Op: api.OpCat}, {Op: 99, Arg: 99}}
	p := api.Prog{Texts: texts[:2], Code: ins[:2]}
	s, e := code.Put(p)
	if e != api.OK || code.Check(p) != api.OK {
		t.Fatalf("Put(%v): %v", p, e)
	}
	if !slices.Equal(texts, []string{"ab", "cd", "spare"}) || !slices.Equal(ins, []api.Ins{{Op: api.OpText, Arg: 1}, {Op: api.OpCat}, {Op: 99, Arg: 99}}) {
		t.Errorf("Put has changed its lists: %q, %v", texts, ins)
	}
	first, _ := code.Get(s)
	for _, x := range first.Texts {
		if within(s, x) {
			t.Errorf("Get: %q is a part of the argument", x)
		}
	}
	first.Texts[0], first.Code[0] = "other", api.Ins{Op: api.OpDrop}
	if second, e := code.Get(s); !same(second, p) || e != api.OK {
		t.Errorf("Get returned lists that were returned before: %v, %v", second, e)
	}
}

// R1: what is far too long ends as well, and soon.
func TestLong(t *testing.T) {
	done := make(chan struct{})
	go func() {
		defer close(done)
		const n = 1 << 24
		long := strings.Repeat("7", n)
		noProgram(t, "a long string", long)
		noLine(t, long)
		noLine(t, "num "+long)
		refused(t, "a long string", api.Prog{Texts: []string{long}})
		refused(t, "many strings", api.Prog{Texts: make([]string, n)})
		refused(t, "many instructions", api.Prog{Code: make([]api.Ins, n)})
	}()
	select {
	case <-done:
	case <-time.After(40 * time.Second):
		t.Error("what is too long takes too long")
	}
}
