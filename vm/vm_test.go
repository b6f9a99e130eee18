package vm_test

import (
	"slices"
	"strconv"
	"strings"
	"testing"
	"time"

	"maslin/api"
	"maslin/code"
	"maslin/verify"
	"maslin/vm"
)

// read returns the program with these lines, and no string. The lines must be instructions.
func read(s string) api.Prog {
	var p api.Prog
	for l := range strings.SplitSeq(s, ";") {
		if l = strings.TrimSpace(l); l == "" {
			continue
		}
		x, e := code.Read(l)
		if e != api.OK {
			panic("no instruction: " + l)
		}
		p.Code = append(p.Code, x)
	}
	return p
}

// times returns s, n times, as lines.
func times(s string, n int) string { return strings.Repeat(s+"; ", n) }

// leaves fails unless p leaves this string of these inputs, with as much fuel as there may be.
func leaves(t *testing.T, p api.Prog, want string, in ...string) {
	t.Helper()
	for _, role := range []uint8{api.RoleJoin, api.RoleTell} {
		r, e := vm.Run(p, role, in, api.MaxFuel)
		if e != api.OK || r.Text != want || r.Pairs != nil {
			t.Errorf("role %d, %s of %q: %q, %v, %v, not %q", role, lines(p), in, r.Text, r.Pairs, e, want)
		}
	}
}

// emits fails unless p emits these pairs (key, value, key, value) of this input, with as much fuel as there may be.
func emits(t *testing.T, p api.Prog, in string, want ...string) {
	t.Helper()
	r, e := vm.Run(p, api.RoleMap, []string{in}, api.MaxFuel)
	var l []string
	for _, x := range r.Pairs {
		l = append(l, x.Key, x.Value)
	}
	if e != api.OK || !slices.Equal(l, want) || r.Text != "" {
		t.Errorf("%s of %q: %q, %q, %v, not %q", lines(p), in, l, r.Text, e, want)
	}
}

// ends fails unless the run ends with this error, and nothing beside it, and with these steps.
func ends(t *testing.T, p api.Prog, role uint8, in []string, fuel int, e api.Errno, path ...int) {
	t.Helper()
	if a := ask(t, p, role, in, fuel); !a.same(outcome{e: e, path: path}) {
		t.Errorf("role %d, %s, fuel %d: %v, not %v with %v", role, lines(p), fuel, a, e, path)
	}
}

// upTo returns the numbers from 0 on, n of them.
func upTo(n int) []int {
	var l []int
	for i := range n {
		l = append(l, i)
	}
	return l
}

// The chapter's examples.
func TestExamples(t *testing.T) {
	p := read("text 0; in 0; emit")
	p.Texts = []string{"a"}
	emits(t, p, "x", "a", "x")
	if a := ask(t, p, api.RoleMap, []string{"x"}, 3); a.ran.Steps != 3 {
		t.Errorf("%v", a)
	}
	leaves(t, read("in 0; in 1; cat"), "bc", "b", "c")
	want := outcome{ran: api.Ran{Steps: 6}, path: []int{0, 1, 2, 3, 2, 3}}
	if a := ask(t, read("in 0; each 44; drop; end"), api.RoleMap, []string{"a,b"}, 6); !a.same(want) {
		t.Errorf("%v", a)
	}
}

// P14.1: what each Op leaves.
func TestOps(t *testing.T) {
	const least, most = "-9223372036854775808", "9223372036854775807"
	long := strings.Repeat("é", api.MaxVal/2)
	for _, x := range []struct{ s, a, b, want string }{
		{"in 0", "a", "b", "a"},
		{"in 1", "a", "b", "b"},
		{"in 0", "", "b", ""},
		{"in 0", "\x00\xff", "", "\x00\xff"},
		{"in 1", "", long, long},
		{"num 0; show", "", "", "0"},
		{"num 255; show", "", "", "255"},
		{"in 1; in 0; cat", "a", "b", "ba"},
		{"in 0; in 1; cat", "", "", ""},
		{"in 0; len; show", "", "", "0"},
		{"in 0; len; show", "é\x00", "", "3"},
		{"in 0; len; show", long, "", "1024"},
		{"in 0; num 1; num 2; part", "abcde", "", "bc"},
		{"in 0; num 0; num 5; part", "abcde", "", "abcde"},
		{"in 0; num 0; num 0; part", "abcde", "", ""},
		{"in 0; num 3; num 9; part", "abcde", "", "de"},
		{"in 0; num 5; num 1; part", "abcde", "", ""},
		{"in 0; num 6; num 1; part", "abcde", "", ""},
		{"in 0; num 1; num 1; part", "é", "", "\xa9"},
		{"in 0; in 1; parse; num 2; part", "abcde", "-1", "ab"},
		{"in 0; in 1; parse; num 2; part", "abcde", least, "ab"},
		{"in 0; in 1; parse; num 2; part", "abcde", most, ""},
		{"in 0; num 2; in 1; parse; part", "abcde", "-1", ""},
		{"in 0; num 2; in 1; parse; part", "abcde", least, ""},
		{"in 0; num 2; in 1; parse; part", "abcde", most, "cde"},
		{"in 0; in 1; parse; in 1; parse; part", "abcde", most, ""},
		{"in 0; in 1; parse; in 1; parse; part", "abcde", "4294967296", ""},
		{"in 0; parse; in 1; parse; add; show", "2", "3", "5"},
		{"in 0; parse; in 1; parse; add; show", "2", "-3", "-1"},
		{"in 0; parse; in 1; parse; add; show", most, "1", least},
		{"in 0; parse; in 1; parse; add; show", least, "-1", most},
		{"in 0; parse; in 1; parse; add; show", least, least, "0"},
		{"in 0; parse; in 1; parse; mul; show", "-4", "3", "-12"},
		{"in 0; parse; in 1; parse; mul; show", least, "-1", least},
		{"in 0; parse; in 1; parse; mul; show", "4294967296", "4294967296", "0"},
		{"in 0; parse; in 1; parse; mul; show", most, most, "1"},
		{"in 0; parse; in 1; parse; less; show", "1", "2", "1"},
		{"in 0; parse; in 1; parse; less; show", "2", "2", "0"},
		{"in 0; parse; in 1; parse; less; show", "3", "2", "0"},
		{"in 0; parse; in 1; parse; less; show", "-1", "0", "1"},
		{"in 0; parse; in 1; parse; less; show", least, most, "1"},
		{"in 0; parse; in 1; parse; less; show", most, least, "0"},
		{"in 0; in 1; same; show", "a", "a", "1"},
		{"in 0; in 1; same; show", "", "", "1"},
		{"in 0; in 1; same; show", "a", "A", "0"},
		{"in 0; in 1; same; show", "a", "a\x00", "0"},
		{"in 0; in 1; same; show", "1", "01", "0"},
		{"in 0; parse; not; show", "0", "", "1"},
		{"in 0; parse; not; show", "1", "", "0"},
		{"in 0; parse; not; show", "-1", "", "0"},
		{"in 0; parse; not; show", "4294967296", "", "0"},
		{"in 0; parse; not; show", least, "", "0"},
		{"in 0; in 1; drop", "a", "b", "a"},
		{"in 0; num 7; drop", "a", "b", "a"},
		{"in 0; dup; cat", "ab", "", "abab"},
		{"num 3; dup; mul; show", "", "", "9"},
		{"in 0; in 1; swap; cat", "a", "b", "ba"},
		{"in 0; num 7; swap; drop; show", "a", "b", "7"},
		{"num 7; in 0; swap; drop", "a", "b", "a"},
		{"num 2; num 5; swap; less; show", "", "", "0"},
	} {
		leaves(t, read(x.s), x.want, x.a, x.b)
	}
	p := read("text 1; text 0; text 2; cat; cat; text 15; cat")
	p.Texts = append([]string{"a", "", strings.Repeat("c", api.MaxConst)}, make([]string, 13)...)
	p.Texts[15] = "z"
	leaves(t, p, "a"+p.Texts[2]+"z", "", "")
}

// P14.1: which strings are a number's digits, and which digits a number has.
func TestDigits(t *testing.T) {
	parse := read("in 0; parse; show")
	for _, s := range []string{
		"0", "1", "9", "10", "-1", "-9", "-10", "100", "1000000007",
		"9223372036854775807", "9223372036854775806", "-9223372036854775808", "-9223372036854775807",
		"4294967296", "-4294967296", "9007199254740993",
	} {
		leaves(t, parse, s, s, "")
	}
	for _, s := range []string{
		"", "-", "--1", "-0", "00", "01", "-01", "+1", "+0", " 1", "1 ", "1\n", "\x001", "1\x00", "1.0", "1e3", "0x1", "0b1", "1_000", "a", "1a", "a1", "٣",
		"9223372036854775808", "-9223372036854775809", "18446744073709551615", "18446744073709551616", "18446744073709551617",
		strings.Repeat("1", api.MaxVal), "-" + strings.Repeat("9", 100), strings.Repeat("0", api.MaxVal), "nan", "inf", "0-1", "1-",
	} {
		leaves(t, parse, "0", s, "")
	}
	n := 0
	for a := range 256 {
		for b := range 256 {
			s := string([]byte{byte(a), byte(b)})
			want := "0"
			if digits.MatchString(s) {
				want = s
				n++
			}
			leaves(t, parse, want, s, "")
		}
		leaves(t, parse, map[bool]string{true: string([]byte{byte(a)}), false: "0"}[a >= '0' && a <= '9'], string([]byte{byte(a)}), "")
	}
	if n != 90+9 {
		t.Errorf("%d strings of two bytes are digits", n)
	}
}

// P14.1: registers are 0, or empty, at first, and each is its own; a run leaves nothing in them to the next one.
func TestRegisters(t *testing.T) {
	for i := range api.Regs {
		here := strconv.Itoa(i)
		get, set := "get "+here+"; show; ", "num 9; set "+here+"; "
		if i >= api.Regs/2 {
			get, set = "get "+here+"; ", "in 0; set "+here+"; "
		}
		before := map[bool]string{true: "0"}[i < api.Regs/2]
		leaves(t, read(get), before, "x", "")
		for j := range api.Regs {
			there := strconv.Itoa(j)
			got, want := "get "+there+"; show; ", "0"
			if j >= api.Regs/2 {
				got, want = "get "+there+"; ", ""
			}
			if i == j {
				want = map[bool]string{true: "9", false: "x"}[j < api.Regs/2]
			}
			leaves(t, read(set+got), want, "x", "")
		}
		leaves(t, read(set+get+get+"cat"), strings.Repeat(map[bool]string{true: "9", false: "x"}[i < api.Regs/2], 2), "x", "")
	}
	leaves(t, read("num 1; set 0; num 2; set 0; get 0; show"), "2", "", "")
}

// P14.1, P14.2: which way a block goes.
func TestBlocks(t *testing.T) {
	for _, x := range []struct {
		s, in string
		path  []int
	}{
		{"num 0; if; end", "", []int{0, 1}},
		{"num 1; if; end", "", []int{0, 1, 2}},
		{"in 0; parse; if; num 7; drop; end", "-1", []int{0, 1, 2, 3, 4, 5}},
		{"in 0; parse; if; num 7; drop; end", "4294967296", []int{0, 1, 2, 3, 4, 5}},
		{"num 0; if; num 7; drop; end; num 8; drop", "", []int{0, 1, 5, 6}},
		{"num 0; if; else; end", "", []int{0, 1, 3}},
		{"num 2; if; else; end", "", []int{0, 1, 2, 3}},
		{"num 0; if; num 3; drop; else; num 4; drop; end", "", []int{0, 1, 5, 6, 7}},
		{"num 2; if; num 3; drop; else; num 4; drop; end", "", []int{0, 1, 2, 3, 4, 7}},
		{"num 2; if; num 0; if; else; end; else; num 0; if; end; end", "", []int{0, 1, 2, 3, 5, 6, 10}},
		{"num 0; if; num 0; if; else; end; else; num 0; if; end; end", "", []int{0, 1, 7, 8, 10}},
		{"num 0; if; num 1; if; end; end; num 2; drop", "", []int{0, 1, 6, 7}},
		{"in 0; each 44; drop; end", "", []int{0, 1}},
		{"in 0; each 44; drop; end", "a", []int{0, 1, 2, 3}},
		{"in 0; each 44; drop; end", ",", []int{0, 1, 2, 3, 2, 3}},
		{"in 0; each 44; drop; end; num 1; drop", "", []int{0, 1, 4, 5}},
		{"in 0; each 44; drop; end; num 1; drop", "a", []int{0, 1, 2, 3, 4, 5}},
		// the inner one is gone through anew with each piece of the outer one; an empty piece has none
		{"in 0; each 59; each 44; drop; end; end", "a,b;;c", []int{0, 1, 2, 3, 4, 3, 4, 5, 2, 5, 2, 3, 4, 5}},
		{"in 0; each 44; drop; in 0; each 44; drop; end; end", "a,", []int{0, 1, 2, 3, 4, 5, 6, 5, 6, 7, 2, 3, 4, 5, 6, 5, 6, 7}},
		// an if within an each, and an each within an if
		{"in 0; each 44; len; if; num 1; drop; end; end", "a,,b", []int{0, 1, 2, 3, 4, 5, 6, 7, 2, 3, 7, 2, 3, 4, 5, 6, 7}},
		{"in 0; each 44; len; if; else; end; end", "a,", []int{0, 1, 2, 3, 4, 5, 6, 2, 3, 5, 6}},
		{"num 1; if; in 0; each 44; drop; end; else; end", "a,b", []int{0, 1, 2, 3, 4, 5, 4, 5, 6, 7}},
		{"num 0; if; in 0; each 44; drop; end; end", "a,b", []int{0, 1}},
	} {
		want := outcome{ran: api.Ran{Steps: len(x.path)}, path: x.path}
		if a := ask(t, read(x.s), api.RoleMap, []string{x.in}, len(x.path)); !a.same(want) {
			t.Errorf("%s of %q: %v, not %v", x.s, x.in, a, want)
		}
	}
	if a := ask(t, api.Prog{}, api.RoleMap, []string{""}, 0); !a.same(outcome{}) {
		t.Errorf("no instruction: %v", a)
	}
}

// P14.1: eight blocks within each other, each entered twice.
func TestDeepBlocks(t *testing.T) {
	p := read("in 0; " + times("dup; each 44; drop", api.MaxBlocks) + "get 0; num 1; add; set 0; " + times("end", api.MaxBlocks) + "drop; get 0; show; in 1; cat")
	leaves(t, p, "256", ",", "")
}

// P14.1: the pieces, at whatever byte.
func TestPieces(t *testing.T) {
	for mark := range 256 {
		m := string([]byte{byte(mark)})
		x := string([]byte{byte(mark + 1)})
		p := read("in 0; each " + strconv.Itoa(mark) + "; dup; emit; end")
		for _, l := range [][]string{{x}, {x, x + x}, {"", ""}, {"", x}, {x, ""}, {"", "", ""}, {x, "", x}, {x + x, x, ""}} {
			var want []string
			for _, s := range l {
				want = append(want, s, s)
			}
			emits(t, p, strings.Join(l, m), want...)
		}
		emits(t, p, "")
	}
	p := read("in 0; each 195; num 1; num 1; part; dup; emit; end")
	emits(t, p, "éaéb", "", "", "a", "a", "b", "b")
	p = read("in 0; each 44; set 4; get 5; get 4; cat; set 5; end; get 5; get 4; emit")
	emits(t, p, "a,bc,,d", "abcd", "d")
}

// P14.1: pairs in their order, the key below the value; the same pair as often as it is emitted.
func TestPairs(t *testing.T) {
	p := read("in 0; num 0; show; emit; text 0; text 1; emit; in 0; num 0; show; emit; text 1; text 0; emit")
	p.Texts = []string{"b", "a"}
	emits(t, p, "c", "c", "0", "b", "a", "c", "0", "a", "b")
	emits(t, p, "", "", "0", "b", "a", "", "0", "a", "b")
	long := strings.Repeat("x", api.MaxVal)
	emits(t, read("in 0; dup; emit"), long, long, long)
	emits(t, read("in 0; drop"), "a")
}

// P14.1: MaxVal bytes may be in each string that is put together, and no more.
func TestLong1024(t *testing.T) {
	half, full := strings.Repeat("h", api.MaxVal/2), strings.Repeat("f", api.MaxVal)
	join := read("in 0; in 1; cat")
	leaves(t, join, half+half, half, half)
	leaves(t, join, full, full, "")
	leaves(t, join, full, "", full)
	leaves(t, join, full, full[1:], "f")
	for _, role := range []uint8{api.RoleJoin, api.RoleTell} {
		ends(t, join, role, []string{full, "f"}, 3, api.ErrLong, 0, 1, 2)
		ends(t, join, role, []string{"f", full}, 3, api.ErrLong, 0, 1, 2)
		ends(t, join, role, []string{half + "h", half}, 3, api.ErrLong, 0, 1, 2)
		ends(t, join, role, []string{full, full}, 3, api.ErrLong, 0, 1, 2)
	}
	// what would become shorter again is too long all the same
	ends(t, read("in 0; dup; cat; num 0; num 1; part; drop"), api.RoleMap, []string{full}, 9, api.ErrLong, 0, 1, 2)
	// pairs that were emitted before are gone
	ends(t, read("in 0; dup; emit; in 0; dup; cat; drop"), api.RoleMap, []string{full}, 9, api.ErrLong, 0, 1, 2, 3, 4, 5)
}

// P14.1: MaxEmits pairs may be emitted, and no more, wherever they come from.
func TestMaxEmits(t *testing.T) {
	p := read("in 0; each 44; dup; emit; end")
	in := strings.Repeat(",", api.MaxEmits-1)
	emits(t, p, in, make([]string, 2*api.MaxEmits)...)
	var path []int
	for range api.MaxEmits {
		path = append(path, 2, 3, 4)
	}
	path = append(append([]int{0, 1}, path...), 2, 3)
	ends(t, p, api.RoleMap, []string{in + ","}, len(path), api.ErrFull, path...)
	ends(t, p, api.RoleMap, []string{in + ",,,"}, api.MaxFuel, api.ErrFull, path...)
	p.Code = append(p.Code, read("num 0; if; in 0; dup; emit; end").Code...)
	emits(t, p, in, make([]string, 2*api.MaxEmits)...)
}

// P14.1: without fuel for a step, nothing else is told of it.
func TestFuel(t *testing.T) {
	full := strings.Repeat("f", api.MaxVal)
	p := read("in 0; dup; cat; drop")
	for fuel := range 3 {
		ends(t, p, api.RoleMap, []string{full}, fuel, api.ErrFuel, upTo(fuel)...)
	}
	ends(t, p, api.RoleMap, []string{full}, 3, api.ErrLong, 0, 1, 2)
	p = read("in 0; dup; emit")
	for fuel := range 3 {
		ends(t, p, api.RoleMap, []string{"a"}, fuel, api.ErrFuel, upTo(fuel)...)
	}
	emits(t, p, "a", "a", "a")
	p = read("in 0; each 44; dup; emit; end")
	in := []string{strings.Repeat(",", api.MaxEmits)}
	a := ask(t, p, api.RoleMap, in, 2+3*api.MaxEmits+1)
	if a.e != api.ErrFuel || len(a.path) != 2+3*api.MaxEmits+1 {
		t.Errorf("%v after %d steps", a.e, len(a.path))
	}
	// steps that are jumped over need none
	if a := ask(t, read("num 0; if; "+times("num 0; drop", 100)+"end"), api.RoleMap, []string{""}, 2); a.e != api.OK || a.ran.Steps != 2 {
		t.Errorf("%v", a)
	}
}

// P14.1, P14.2: as much fuel as there may be is enough for as many steps, and for none more.
func TestMaxFuel(t *testing.T) {
	p := read("in 0; each 44; len; not; show; drop; " + times("num 0; drop", 106) + "end")
	in := []string{strings.Repeat(",", 301), ""} // 302 pieces, with 217 steps each
	a := agree(t, p, api.RoleMap, in[:1], api.MaxFuel)
	if a.e != api.OK || a.ran.Steps != api.MaxFuel {
		t.Errorf("%v, %d steps", a.e, len(a.path))
	}
	a = agree(t, p, api.RoleMap, in[:1], api.MaxFuel-1)
	if a.e != api.ErrFuel || len(a.path) != api.MaxFuel-1 {
		t.Errorf("%v, %d steps", a.e, len(a.path))
	}
	p.Code = append(p.Code, read("in 0").Code...)
	a = agree(t, p, api.RoleJoin, in, api.MaxFuel)
	if a.e != api.ErrFuel || len(a.path) != api.MaxFuel {
		t.Errorf("%v, %d steps", a.e, len(a.path))
	}
}

// P14.1, P14.2: what is refused, and nothing beside it.
func TestArg(t *testing.T) {
	good := read("in 0; num 0; if; end; drop")
	text := read("in 0")
	for role := range 256 {
		switch uint8(role) {
		case api.RoleMap, api.RoleJoin, api.RoleTell:
			continue
		}
		for n := range 4 {
			ends(t, good, uint8(role), make([]string, n), 9, api.ErrArg)
			ends(t, text, uint8(role), make([]string, n), 9, api.ErrArg)
			ends(t, api.Prog{}, uint8(role), make([]string, n), 9, api.ErrArg)
		}
	}
	for _, fuel := range []int{-1, -2, -65536, -1 << 63, api.MaxFuel + 1, 1<<32 + 9, 1<<63 - 1} {
		ends(t, good, api.RoleMap, []string{""}, fuel, api.ErrArg)
		ends(t, api.Prog{}, api.RoleMap, []string{""}, fuel, api.ErrArg)
		ends(t, text, api.RoleJoin, []string{"", ""}, fuel, api.ErrArg)
		ends(t, text, api.RoleTell, []string{"", ""}, fuel, api.ErrArg)
	}
	for role, p := range map[uint8]api.Prog{api.RoleMap: good, api.RoleJoin: text, api.RoleTell: text} {
		want := len(given(role, "", ""))
		for n := range 5 {
			if n != want {
				ends(t, p, role, make([]string, n), 9, api.ErrArg)
			}
		}
		ends(t, p, role, nil, 9, api.ErrArg)
		for i := range want {
			in := make([]string, want)
			in[i] = strings.Repeat("x", api.MaxVal)
			if a := ask(t, p, role, in, 9); a.e != api.OK {
				t.Errorf("role %d: %v", role, a.e)
			}
			in[i] += "x"
			ends(t, p, role, in, 9, api.ErrArg)
			ends(t, p, role, in, 0, api.ErrArg)
		}
	}
	// inputs that the program does not take count as well
	ends(t, read("num 0; show"), api.RoleJoin, []string{"", strings.Repeat("x", api.MaxVal+1)}, 9, api.ErrArg)
	ends(t, api.Prog{}, api.RoleMap, nil, 9, api.ErrArg)
}

// P14.1, P14.2: a program that is not accepted, for whatever reason, is not run, also if its wrong instruction would never be reached.
func TestNotAccepted(t *testing.T) {
	for _, s := range []string{
		"in 0", "in 0; add", "num 1; if", "text 0; drop", "in 1; drop", "get 8; drop", "end", "else", "drop",
		"in 0; len; cat; drop", "num 0; if; num 0; end", "in 0; each 0; end", "num 0; if; drop; end",
		"num 0; if; text 0; drop; end", "in 0; drop; drop", times("num 0", 17) + times("drop", 17),
		times("num 0; if", 9) + times("end", 9), times("num 0; drop", api.MaxCode/2+1),
	} {
		if _, e := verify.Check(read(s), api.RoleMap); e == api.OK {
			t.Errorf("%s is accepted", s)
		}
		ends(t, read(s), api.RoleMap, []string{"a"}, 99, api.ErrArg)
	}
	for _, s := range []string{"", "num 0", "in 0; in 1", "in 0; in 0; in 1; emit", "in 2", "num 0; if; in 0; dup; emit; end; in 0"} {
		for _, role := range []uint8{api.RoleJoin, api.RoleTell} {
			ends(t, read(s), role, []string{"a", "b"}, 99, api.ErrArg)
		}
	}
	for _, p := range []api.Prog{
		{Code: []api.Ins{{}}},
		{Code: []api.Ins{{Op: api.Ops + 1}}},
		{Code: []api.Ins{{Op: 255, Arg: 255}}},
		{Code: []api.Ins{{Op: api.OpIn}, {Op: api.OpDrop, Arg: 1}}},
		{Texts: make([]string, api.MaxTexts+1)},
		{Texts: []string{strings.Repeat("x", api.MaxConst+1)}},
	} {
		ends(t, p, api.RoleMap, []string{"a"}, 99, api.ErrArg)
	}
}

// P14.1, P14.2: a program of as many instructions as there may be, with a stack as full as it may be.
func TestWhole(t *testing.T) {
	const n = api.MaxStack
	p := read(times("in 0", n) + times("swap", 208) + times("cat", n-1) + times("len; show", 8) + "drop")
	if len(p.Code) != api.MaxCode {
		t.Fatalf("%d instructions", len(p.Code))
	}
	for _, in := range []string{"", "a", strings.Repeat("x", api.MaxVal/n)} {
		a := ask(t, p, api.RoleMap, []string{in}, api.MaxCode)
		if want := (outcome{ran: api.Ran{Steps: api.MaxCode}, path: upTo(api.MaxCode)}); !a.same(want) {
			t.Errorf("%v", a)
		}
	}
	ends(t, p, api.RoleMap, []string{strings.Repeat("x", api.MaxVal/n+1)}, api.MaxFuel, api.ErrLong, upTo(n+208+15)...)
}

// R6: what comes of a run hangs on nothing that was run before.
func TestAgain(t *testing.T) {
	for range 3 {
		emits(t, read("get 4; get 0; show; emit; in 0; set 4; num 5; set 0"), "a", "", "0")
		ends(t, read("in 0; dup; emit; in 0; each 44; num 0; if; end; drop; in 0; dup; cat; drop; end"), api.RoleMap, []string{strings.Repeat("x", 600)}, 99, api.ErrLong, 0, 1, 2, 3, 4, 5, 6, 8, 9, 10, 11)
		ends(t, read("in 0; dup; emit"), api.RoleMap, []string{"a"}, 2, api.ErrFuel, 0, 1)
	}
}

// R5: what is returned is new memory, and what is passed remains as it is.
func TestApart(t *testing.T) {
	texts, ins := []string{"ab", "spare"}, read("in 0; each 44; text 0; emit; end; add").Code
	in := []string{"a,b", "spare"}
	p := api.Prog{Texts: texts[:1], Code: ins[:5]}
	want := outcome{
		ran:  api.Ran{Pairs: []api.Pair{{Key: "a", Value: "ab"}, {Key: "b", Value: "ab"}}, Steps: 8},
		path: []int{0, 1, 2, 3, 4, 2, 3, 4},
	}
	for range 3 {
		a := ask(t, p, api.RoleMap, in[:1], 8)
		if !a.same(want) {
			t.Errorf("%v, not %v", a, want)
		}
		for i := range a.ran.Pairs[:cap(a.ran.Pairs)] {
			a.ran.Pairs[:cap(a.ran.Pairs)][i] = api.Pair{Key: "changed"}
		}
		for i := range a.path[:cap(a.path)] {
			a.path[:cap(a.path)][i] = 99
		}
	}
	if !slices.Equal(texts, []string{"ab", "spare"}) || !slices.Equal(ins, read("in 0; each 44; text 0; emit; end; add").Code) || !slices.Equal(in, []string{"a,b", "spare"}) {
		t.Errorf("arguments are changed: %q, %v, %q", texts, ins, in)
	}
}

// R1: what is far too long ends as well, and soon; so does what takes the most steps, with the longest strings.
func TestLong(t *testing.T) {
	done := make(chan struct{})
	go func() {
		defer close(done)
		const n = 1 << 24
		good := read("in 0; drop")
		for _, p := range []api.Prog{
			{Texts: []string{strings.Repeat("7", n)}},
			{Texts: make([]string, n)},
			{Code: make([]api.Ins, n)},
			{Code: slices.Repeat([]api.Ins{{Op: api.OpNum}}, n)},
		} {
			ends(t, p, api.RoleMap, []string{""}, 9, api.ErrArg)
		}
		ends(t, good, api.RoleMap, make([]string, n), 9, api.ErrArg)
		ends(t, good, api.RoleMap, []string{strings.Repeat("7", n)}, 9, api.ErrArg)
		p := read("in 0; each 44; drop; in 0; each 44; drop; in 0; num 0; num 250; num 4; mul; part; text 0; cat; drop; end; end")
		p.Texts = []string{"0123456789"}
		if a := ask(t, p, api.RoleMap, []string{strings.Repeat(",", api.MaxVal)}, api.MaxFuel); a.e != api.ErrFuel || len(a.path) != api.MaxFuel {
			t.Errorf("%v, %d steps", a.e, len(a.path))
		}
	}()
	select {
	case <-done:
	case <-time.After(40 * time.Second):
		t.Error("what is too long takes too long")
	}
}
