package verify_test

import (
	"slices"
	"strconv"
	"strings"
	"testing"
	"time"

	"maslin/api"
	"maslin/code"
	"maslin/verify"
)

// read returns the program with these lines, and no string. The lines must be instructions.
func read(s string) api.Prog {
	var p api.Prog
	for l := range strings.SplitSeq(s, ";") {
		if l = strings.TrimSpace(l); l == "" {
			continue
		}
		x, e := code.Read(l)
		if e != api.OK {
			panic("no instruction: " + l)
		}
		p.Code = append(p.Code, x)
	}
	return p
}

// times returns s, n times, as lines.
func times(s string, n int) string { return strings.Repeat(s+"; ", n) }

// refused fails unless p is wrong there, for this reason, and beside it everything is zero.
func refused(t *testing.T, p api.Prog, role uint8, at int, e api.Errno) {
	t.Helper()
	want := answer{at: at, e: e}
	if a := ask(t, p, role); !a.same(want) {
		t.Errorf("role %d, %d strings, %s: %v, not %v", role, len(p.Texts), lines(p), a, want)
	}
}

// accepted fails unless p is accepted.
func accepted(t *testing.T, p api.Prog, role uint8) {
	t.Helper()
	if a := ask(t, p, role); a.at != 0 || a.e != api.OK {
		t.Errorf("role %d, %d strings, %s: %v at %d", role, len(p.Texts), lines(p), a.e, a.at)
	}
}

// The chapter's examples.
func TestExamples(t *testing.T) {
	p := read("text 0; in 0; emit")
	p.Texts = []string{"a"}
	accepted(t, p, api.RoleMap)
	refused(t, p, api.RoleJoin, 2, api.ErrRole)
	for _, role := range roles() {
		refused(t, read("in 0; add"), role, 1, api.ErrStack)
		refused(t, read("num 1; if"), role, 2, api.ErrBlock)
	}
	accepted(t, read("in 0; each 44; drop; end"), api.RoleMap)
}

// P13.1: the first thing that is wrong counts, and where it is.
func TestCheck(t *testing.T) {
	const ok = api.OK
	for _, x := range []struct {
		role uint8
		at   int
		e    api.Errno
		s    string
	}{
		// what each role requires at the end
		{api.RoleMap, 0, ok, ""},
		{api.RoleJoin, 0, api.ErrStack, ""},
		{api.RoleTell, 0, api.ErrStack, ""},
		{api.RoleMap, 1, api.ErrStack, "in 0"},
		{api.RoleMap, 1, api.ErrStack, "num 0"},
		{api.RoleJoin, 0, ok, "in 0"},
		{api.RoleTell, 0, ok, "in 1"},
		{api.RoleJoin, 1, api.ErrKind, "num 0"},
		{api.RoleTell, 1, api.ErrKind, "num 0"},
		{api.RoleJoin, 2, api.ErrStack, "in 0; in 1"},
		{api.RoleTell, 2, api.ErrStack, "num 0; num 1"},
		{api.RoleJoin, 0, ok, "in 0; in 1; cat"},
		{api.RoleMap, 0, ok, "in 0; drop"},
		{api.RoleMap, 2, api.ErrStack, "in 0; drop; drop"},
		{api.RoleJoin, 5, api.ErrStack, "in 0; num 0; if; end; drop"},
		{api.RoleMap, 2, api.ErrBlock, "in 0; each 0"},
		{api.RoleJoin, 2, api.ErrBlock, "in 0; each 0"},
		{api.RoleJoin, 3, api.ErrBlock, "num 0; if; in 0"},
		{api.RoleJoin, 4, api.ErrBlock, "num 0; if; in 0; else"},
		// if, else, end
		{api.RoleMap, 0, ok, "num 0; if; end"},
		{api.RoleMap, 0, ok, "num 0; if; else; end"},
		{api.RoleMap, 0, api.ErrStack, "if; end"},
		{api.RoleMap, 1, api.ErrKind, "in 0; if; end"},
		{api.RoleMap, 3, api.ErrBlock, "num 0; if; num 0; end"},
		{api.RoleMap, 3, api.ErrBlock, "num 0; if; else; else; end"},
		{api.RoleMap, 0, api.ErrBlock, "else"},
		{api.RoleMap, 0, api.ErrBlock, "end"},
		{api.RoleMap, 3, api.ErrBlock, "num 0; if; end; end"},
		{api.RoleMap, 3, api.ErrBlock, "num 0; if; end; else"},
		{api.RoleMap, 4, api.ErrBlock, "num 0; if; else; end; else"},
		{api.RoleMap, 0, ok, "num 0; if; num 0; if; else; end; else; num 0; if; else; end; end"},
		{api.RoleJoin, 0, ok, "num 0; if; in 0; else; in 1; end"},
		{api.RoleJoin, 5, api.ErrBlock, "num 0; if; in 0; else; num 1; end"},
		{api.RoleJoin, 4, api.ErrBlock, "num 0; if; in 0; else; end"},
		{api.RoleJoin, 4, api.ErrBlock, "num 0; if; else; in 0; end"},
		{api.RoleJoin, 7, api.ErrBlock, "num 0; if; in 0; num 0; else; num 0; in 0; end"},
		{api.RoleJoin, 0, ok, "num 0; if; in 0; num 0; else; in 1; num 0; end; drop"},
		// what is under a block may be popped in it, if it is there again at its end
		{api.RoleJoin, 0, ok, "in 0; num 0; if; drop; in 1; end"},
		{api.RoleJoin, 5, api.ErrBlock, "in 0; num 0; if; drop; num 1; end"},
		{api.RoleJoin, 4, api.ErrBlock, "in 0; num 0; if; drop; end"},
		{api.RoleMap, 0, ok, "in 0; num 0; if; drop; else; drop; end"},
		{api.RoleMap, 7, api.ErrBlock, "in 0; num 0; if; drop; num 0; else; drop; end; drop"},
		{api.RoleMap, 5, api.ErrStack, "in 0; num 0; if; drop; else; cat; end"},
		{api.RoleMap, 0, ok, "in 0; num 0; if; drop; num 0; else; len; end; drop"},
		{api.RoleMap, 4, api.ErrStack, "in 0; num 0; if; drop; drop; end"},
		// each, end
		{api.RoleMap, 0, ok, "in 0; each 0; drop; end"},
		{api.RoleMap, 2, api.ErrBlock, "in 0; each 0; end"},
		{api.RoleMap, 3, api.ErrBlock, "in 0; each 0; drop; else; end"},
		{api.RoleMap, 3, api.ErrBlock, "in 0; each 0; len; end"},
		{api.RoleMap, 1, api.ErrKind, "num 0; each 0; drop; end"},
		{api.RoleMap, 0, api.ErrStack, "each 0; drop; end"},
		{api.RoleJoin, 0, ok, "in 0; in 1; each 44; cat; end"},
		{api.RoleJoin, 3, api.ErrBlock, "in 0; in 1; each 44; end"},
		{api.RoleMap, 5, api.ErrBlock, "in 0; each 0; num 0; if; end; else"},
		{api.RoleMap, 5, api.ErrBlock, "num 0; if; in 0; each 0; drop; else"},
		{api.RoleMap, 0, ok, "num 0; if; in 0; each 255; drop; end; else; in 0; drop; end"},
	} {
		if p := read(x.s); x.e == ok {
			accepted(t, p, x.role)
		} else {
			refused(t, p, x.role, x.at, x.e)
		}
	}
}

// P13.1: strings, inputs and registers that are there, up to the last one, and that are not, from the next one on.
func TestThere(t *testing.T) {
	for n := range api.MaxTexts + 1 {
		for arg := range 256 {
			p := api.Prog{Texts: make([]string, n), Code: []api.Ins{{Op: api.OpIn}, {Op: api.OpDrop}, {Op: api.OpText, Arg: uint8(arg)}}}
			if arg < n {
				accepted(t, p, api.RoleJoin)
			} else {
				refused(t, p, api.RoleJoin, 2, api.ErrNone)
			}
		}
	}
	for role, n := range map[uint8]int{api.RoleMap: 1, api.RoleJoin: 2, api.RoleTell: 2} {
		for arg := range 256 {
			p := read("in " + strconv.Itoa(arg) + "; drop; in 0" + strings.Repeat("; drop", 2-n))
			if arg < n {
				accepted(t, p, role)
			} else {
				refused(t, p, role, 0, api.ErrNone)
			}
		}
	}
	for arg := range 256 {
		get, set := read("get "+strconv.Itoa(arg)+"; drop"), read("set "+strconv.Itoa(arg))
		switch {
		case arg < 4:
			set.Code = append(read("num 0").Code, set.Code...)
		case arg < 8:
			set.Code = append(read("in 0").Code, set.Code...)
		default:
			refused(t, get, api.RoleMap, 0, api.ErrNone)
			refused(t, set, api.RoleMap, 0, api.ErrNone)
			continue
		}
		accepted(t, get, api.RoleMap)
		accepted(t, set, api.RoleMap)
	}
	for _, arg := range []int{0, 1, 127, 128, 255} {
		accepted(t, read("num "+strconv.Itoa(arg)+"; drop; in 0; each "+strconv.Itoa(arg)+"; drop; end"), api.RoleMap)
	}
}

// P13.1: what each Op pops, and pushes, above what else there is; with other kinds it is wrong, and with fewer.
func TestOps(t *testing.T) {
	for _, x := range []struct{ s, pops, pushes string }{
		{"text 0", "", "T"}, {"num 7", "", "N"}, {"in 0", "", "T"},
		{"cat", "TT", "T"}, {"len", "T", "N"}, {"part", "TNN", "T"}, {"parse", "T", "N"}, {"show", "N", "T"},
		{"add", "NN", "N"}, {"mul", "NN", "N"}, {"less", "NN", "N"}, {"same", "TT", "N"}, {"not", "N", "N"},
		{"drop", "T", ""}, {"drop", "N", ""}, {"dup", "T", "TT"}, {"dup", "N", "NN"},
		{"swap", "TN", "NT"}, {"swap", "NT", "TN"}, {"swap", "NN", "NN"}, {"swap", "TT", "TT"},
		{"get 0", "", "N"}, {"get 3", "", "N"}, {"get 4", "", "T"}, {"get 7", "", "T"},
		{"set 0", "N", ""}, {"set 3", "N", ""}, {"set 4", "T", ""}, {"set 7", "T", ""},
		{"emit", "TT", ""},
	} {
		for _, under := range []string{"", "N", "T", "NT", "TN", "TTNN"} {
			before, behind := under+x.pops, under+x.pushes
			p := read(pushing(before) + x.s + "; " + times("drop", len(behind)))
			p.Texts = []string{""}
			a := ask(t, p, api.RoleMap)
			if a.e != api.OK || a.kinds[len(before)] != before {
				t.Errorf("%s with %s: %v", x.s, before, a)
				continue
			}
			if len(behind) > 0 && a.kinds[len(before)+1] != behind {
				t.Errorf("%s with %s: then %s, not %s", x.s, before, a.kinds[len(before)+1], behind)
			}
		}
		for n := range x.pops {
			p := read(pushing(x.pops[n+1:]) + x.s)
			refused(t, p, api.RoleMap, len(p.Code)-1, api.ErrStack)
			if name := strings.Fields(x.s)[0]; name == "drop" || name == "dup" || name == "swap" {
				continue
			}
			other := map[byte]string{'N': "T", 'T': "N"}[x.pops[n]]
			p = read(pushing("N"+x.pops[:n]+other+x.pops[n+1:]) + x.s)
			refused(t, p, api.RoleMap, len(p.Code)-1, api.ErrKind)
		}
	}
}

// pushing returns the lines that push values of these kinds.
func pushing(kinds string) string {
	return strings.NewReplacer("N", "num 0; ", "T", "in 0; ").Replace(kinds)
}

// P13.1: if several reasons apply to an instruction, the first one counts.
func TestOrder(t *testing.T) {
	// ErrNone: ahead of too many values, too few, and of the other kind
	full := times("num 0", api.MaxStack)
	for _, s := range []string{"text 0", "in 2", "get 8", "set 8", "set 255"} {
		refused(t, read(full+s), api.RoleJoin, api.MaxStack, api.ErrNone)
		refused(t, read(s), api.RoleJoin, 0, api.ErrNone)
	}
	// ErrRole: ahead of too few values, and of those of the other kind
	for _, role := range []uint8{api.RoleJoin, api.RoleTell} {
		refused(t, read("emit"), role, 0, api.ErrRole)
		refused(t, read("num 0; num 0; emit"), role, 2, api.ErrRole)
		refused(t, read("in 0; in 1; emit"), role, 2, api.ErrRole)
	}
	refused(t, read("emit"), api.RoleMap, 0, api.ErrStack)
	refused(t, read("in 0; num 0; emit"), api.RoleMap, 2, api.ErrKind)
	// ErrBlock: ahead of too few values, and of those of the other kind
	deep := times("num 0; if", api.MaxBlocks)
	for _, s := range []string{"if", "each 0", "num 0; each 0", "in 0; if"} {
		p := read(deep + s)
		refused(t, p, api.RoleMap, len(p.Code)-1, api.ErrBlock)
	}
	// ErrStack: too few values, ahead of the other kind
	refused(t, read("in 0; add"), api.RoleMap, 1, api.ErrStack)
	refused(t, read("num 0; num 0; part"), api.RoleMap, 2, api.ErrStack)
	refused(t, read("num 0; cat"), api.RoleMap, 1, api.ErrStack)
	// at the end: a block, ahead of how many values, ahead of their kind
	refused(t, read("num 0; num 0; num 0; if"), api.RoleJoin, 4, api.ErrBlock)
	refused(t, read("num 0; num 0"), api.RoleJoin, 2, api.ErrStack)
	// an instruction ahead of the end, and of those behind it
	refused(t, read("num 0; len; in 9; emit; end"), api.RoleJoin, 1, api.ErrKind)
	refused(t, read("num 0; if; in 0; add"), api.RoleJoin, 3, api.ErrStack)
}

// P13.1: up to MaxStack values there may be, wherever they come from.
func TestMaxStack(t *testing.T) {
	const n = api.MaxStack
	for _, s := range []string{"text 0", "num 0", "in 0", "get 0", "get 7", "dup"} {
		p := read("in 0; " + times(s, n-1))
		p.Texts = []string{""}
		q := read("in 0; " + times(s, n-1) + times("drop", n))
		q.Texts = p.Texts
		if a := ask(t, q, api.RoleMap); a.e != api.OK || a.deep != n || len(a.kinds[n]) != n {
			t.Errorf("%s: %v", lines(q), a)
		}
		refused(t, p, api.RoleMap, n, api.ErrStack)
		p.Code = append(p.Code, read(s).Code...)
		refused(t, p, api.RoleMap, n, api.ErrStack)
	}
	full := times("in 0", n)
	for _, s := range []string{"swap", "len; show", "each 0; drop; end; in 0", "each 0; drop; dup; cat; in 0; drop; end; in 0", "drop; dup", "parse; set 0; get 7", "cat; get 4"} {
		accepted(t, read(full+s+"; "+times("drop", n)), api.RoleMap)
	}
	accepted(t, read(times("in 0", n-1)+"num 0; if; in 0; else; in 0; end; "+times("drop", n)), api.RoleMap)
	refused(t, read(full+"each 0; dup; end"), api.RoleMap, n+1, api.ErrStack)
	refused(t, read(times("in 0", n-1)+"num 0; if; in 0; dup; end"), api.RoleMap, n+2, api.ErrStack)
}

// P13.1: up to MaxBlocks blocks may be open, of either kind; those that are closed do not count.
func TestMaxBlocks(t *testing.T) {
	const n = api.MaxBlocks
	for _, s := range [][2]string{
		{"num 0; if", "end"}, {"num 0; if; else", "end"}, {"num 0; if", "else; end"},
		{"in 0; each 0", "drop; end"}, {"num 0; if; in 0; each 0; drop", "end; end"},
	} {
		size := strings.Count(s[1], "end")
		full, close := times(s[0], n/size), times(s[1], n/size)
		accepted(t, read(full+close), api.RoleMap)
		accepted(t, read(full+close+full+close), api.RoleMap)
		refused(t, read(full+"num 0; if; end; "+close), api.RoleMap, len(read(full).Code)+1, api.ErrBlock)
		refused(t, read(full+"in 0; each 0; drop; end; "+close), api.RoleMap, len(read(full).Code)+1, api.ErrBlock)
		accepted(t, read(times(s[0], n/size-1)+"num 0; if; end; num 0; if; else; end; "+times(s[1], n/size-1)), api.RoleMap)
	}
	accepted(t, read(times("num 0; if; end", 50)+times("in 0; each 0; drop; end", 25)), api.RoleMap)
}

// P13.1, P13.2: what is no program, and what is no role, is an error at 0, whatever else is wrong.
func TestArg(t *testing.T) {
	good := read("in 0; num 0; if; end")
	for role := range 256 {
		switch uint8(role) {
		case api.RoleMap, api.RoleJoin, api.RoleTell:
			continue
		}
		refused(t, good, uint8(role), 0, api.ErrArg)
		refused(t, api.Prog{}, uint8(role), 0, api.ErrArg)
		refused(t, read("num 0; emit"), uint8(role), 0, api.ErrArg)
	}
	good.Code = append(good.Code, read(times("num 0; drop", (api.MaxCode-4)/2)).Code...)
	good.Texts = slices.Repeat([]string{strings.Repeat("x", api.MaxConst)}, api.MaxTexts)
	for _, role := range []uint8{api.RoleJoin, api.RoleTell} {
		accepted(t, good, role)
		for _, x := range []api.Ins{{}, {Op: 24}, {Op: 255}, {Op: api.OpDrop, Arg: 1}, {Op: api.OpEnd, Arg: 255}, {Arg: 1}} {
			for _, at := range []int{0, 1, api.MaxCode - 1} {
				p := good
				p.Code = slices.Clone(good.Code)
				p.Code[at] = x
				refused(t, p, role, 0, api.ErrArg)
			}
		}
		p := good
		p.Code = append(slices.Clone(good.Code), read("num 0").Code...)
		refused(t, p, role, 0, api.ErrArg)
		p = good
		p.Texts = append(slices.Clone(good.Texts), "")
		refused(t, p, role, 0, api.ErrArg)
		p.Texts = slices.Clone(good.Texts)
		p.Texts[api.MaxTexts-1] += "x"
		refused(t, p, role, 0, api.ErrArg)
	}
	for _, role := range []uint8{0, api.RoleMap, 200} {
		refused(t, api.Prog{Code: []api.Ins{{Op: api.OpText, Arg: 9}, {Op: 99}}}, role, 0, api.ErrArg)
	}
}

// P13.2: the kinds before each instruction, the most values, and the ends.
func TestFound(t *testing.T) {
	for _, x := range []struct {
		s, kinds string
		deep     int
		ends     []int
	}{
		{"in 0", "-", 1, []int{0}},
		{"in 0; in 1; cat", "- T TT", 2, []int{0, 0, 0}},
		{"in 0; parse; in 1; parse; add; show", "- T N NT NN N", 2, []int{0, 0, 0, 0, 0, 0}},
		{"num 1; if; in 0; else; in 1; end", "- N - T - T", 1, []int{0, 3, 0, 5, 0, 0}},
		{"in 0; num 1; if; drop; in 1; end", "- T TN T - T", 2, []int{0, 0, 5, 0, 0, 0}},
		{"in 0; num 1; if; else; end", "- T TN T T", 2, []int{0, 0, 3, 4, 0}},
		{"in 0; num 1; if; end", "- T TN T", 2, []int{0, 0, 3, 0}},
		{"in 0; in 1; each 10; cat; end", "- T TT TT T", 2, []int{0, 0, 4, 0, 0}},
		{
			"in 0; each 44; num 2; if; set 4; else; each 59; dup; set 7; num 0; if; end; drop; end; end; end; get 4",
			"- T T TN T - T T TT T TN T T - - - -",
			2, []int{0, 15, 0, 5, 0, 14, 13, 0, 0, 0, 11, 0, 0, 0, 0, 0, 0},
		},
		{"in 0; num 0; num 1; part; dup; cat", "- T TN TNN T TT", 3, []int{0, 0, 0, 0, 0, 0}},
		{"num 3; in 0; swap; drop", "- N NT TN", 2, []int{0, 0, 0, 0}},
	} {
		p := read(x.s)
		want := answer{deep: x.deep, ends: x.ends}
		for _, kinds := range strings.Fields(x.kinds) {
			want.kinds = append(want.kinds, strings.Trim(kinds, "-"))
		}
		if a := ask(t, p, api.RoleTell); !a.same(want) {
			t.Errorf("%s: %v, not %v", x.s, a, want)
		}
	}
	if a := ask(t, api.Prog{}, api.RoleMap); !a.same(answer{}) {
		t.Errorf("no instruction: %v", a)
	}
	// what was found up to an error is not told
	refused(t, read("in 0; in 1; each 10; num 0; if; drop; end; end"), api.RoleTell, 6, api.ErrBlock)
	refused(t, read("in 0; num 0; num 1; num 2; part; dup; cat"), api.RoleTell, 4, api.ErrKind)
	refused(t, read("num 0; if; in 0; else; in 1; end; len"), api.RoleTell, 7, api.ErrKind)
}

// P13.2: a program of as many instructions as there may be, whose ends are at its end.
func TestWhole(t *testing.T) {
	p := read("num 0; if; " + times("num 0; drop", (api.MaxCode-4)/2) + "else; end")
	a := ask(t, p, api.RoleMap)
	if a.e != api.OK || len(a.kinds) != api.MaxCode || len(a.ends) != api.MaxCode || a.ends[1] != 254 || a.ends[254] != 255 || a.ends[255] != 0 {
		t.Errorf("%v", a)
	}
}

// R5: what is returned is new memory, and what is passed remains as it is.
func TestApart(t *testing.T) {
	texts, ins := []string{"ab", "spare"}, read("in 0; each 44; text 0; emit; end; add").Code
	p := api.Prog{Texts: texts[:1], Code: ins[:5]}
	kinds, _ := verify.Kinds(p, api.RoleMap)
	ends, _ := verify.Ends(p, api.RoleMap)
	for i := range kinds[:cap(kinds)] {
		kinds[:cap(kinds)][i] = "changed"
	}
	for i := range ends[:cap(ends)] {
		ends[:cap(ends)][i] = 99
	}
	agree(t, p, api.RoleMap)
	accepted(t, p, api.RoleMap)
	if !slices.Equal(texts, []string{"ab", "spare"}) || !slices.Equal(ins, read("in 0; each 44; text 0; emit; end; add").Code) {
		t.Errorf("arguments are changed: %q, %v", texts, ins)
	}
}

// R1: what is far too long ends as well, and soon.
func TestLong(t *testing.T) {
	done := make(chan struct{})
	go func() {
		defer close(done)
		const n = 1 << 24
		for _, p := range []api.Prog{
			{Texts: []string{strings.Repeat("7", n)}},
			{Texts: make([]string, n)},
			{Code: make([]api.Ins, n)},
			{Code: slices.Repeat([]api.Ins{{Op: api.OpNum}}, n)},
		} {
			if at, e := verify.Check(p, api.RoleMap); at != 0 || e != api.ErrArg {
				t.Errorf("%d strings, %d instructions: %v at %d", len(p.Texts), len(p.Code), e, at)
			}
		}
	}()
	select {
	case <-done:
	case <-time.After(40 * time.Second):
		t.Error("what is too long takes too long")
	}
}
