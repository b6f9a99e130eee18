package vm_test

import (
	"math/big"
	"math/rand/v2"
	"regexp"
	"slices"
	"strings"
	"testing"

	"maslin/api"
	"maslin/code"
	"maslin/verify"
	"maslin/vm"
)

// outcome is what the functions return of a run, both together.
type outcome struct {
	ran  api.Ran
	e    api.Errno
	path []int
}

// same reports whether a and b are the same: a nil list and an empty one are.
func (a outcome) same(b outcome) bool {
	return a.e == b.e && a.ran.Text == b.ran.Text && a.ran.Steps == b.ran.Steps && slices.Equal(a.ran.Pairs, b.ran.Pairs) && slices.Equal(a.path, b.path)
}

// ask returns what the functions return of a run.
func ask(t *testing.T, p api.Prog, role uint8, in []string, fuel int) outcome {
	t.Helper()
	var a outcome
	a.ran, a.e = vm.Run(p, role, in, fuel)
	path, e := vm.Trace(p, role, in, fuel)
	a.path = path
	if (e == api.ErrArg) != (a.e == api.ErrArg) || e != api.OK && e != api.ErrArg {
		t.Fatalf("role %d, %s of %q, fuel %d: Run: %v, Trace: %v", role, lines(p), in, fuel, a.e, e)
	}
	return a
}

// agree fails unless the functions return of a run what the model does, which it returns.
func agree(t *testing.T, p api.Prog, role uint8, in []string, fuel int) outcome {
	t.Helper()
	want := model(t, p, role, in, fuel)
	if a := ask(t, p, role, in, fuel); !a.same(want) {
		t.Fatalf("role %d, %s with %q of %q, fuel %d: %v, not %v", role, lines(p), p.Texts, in, fuel, a, want)
	}
	return want
}

// lines returns the lines of p's instructions, for a message.
func lines(p api.Prog) string {
	var l []string
	for _, x := range p.Code {
		s, _ := code.Line(x)
		l = append(l, s)
	}
	return strings.Join(l, ", ")
}

// run is one of the model's. Its values are *big.Int and string.
type run struct {
	t     *testing.T
	p     api.Prog
	in    []string
	fuel  int
	kinds []string
	stack []any
	regs  [8]any
	pairs []api.Pair
	path  []int
}

// model returns what the functions are to return of a run: the chapter, sentence by sentence. It goes through the blocks one within the other, and fails if a value has another kind than verify tells, or there is another number of them.
func model(t *testing.T, p api.Prog, role uint8, in []string, fuel int) (a outcome) {
	t.Helper()
	kinds, e := verify.Kinds(p, role)
	if e != api.OK || len(in) != map[uint8]int{api.RoleMap: 1, api.RoleJoin: 2, api.RoleTell: 2}[role] || fuel < 0 || fuel > 65536 {
		return outcome{e: api.ErrArg}
	}
	for _, s := range in {
		if len(s) > 1024 {
			return outcome{e: api.ErrArg}
		}
	}
	r := &run{t: t, p: p, in: in, fuel: fuel, kinds: kinds}
	for i := range r.regs {
		r.regs[i] = big.NewInt(0)
		if i > 3 {
			r.regs[i] = ""
		}
	}
	defer func() {
		if e, is := recover().(api.Errno); is {
			a = outcome{e: e, path: r.path}
		}
	}()
	r.span(0, len(p.Code))
	a = outcome{ran: api.Ran{Pairs: r.pairs, Steps: len(r.path)}, path: r.path}
	if role != api.RoleMap {
		a.ran.Text = r.stack[0].(string)
	}
	return a
}

// span executes the instructions from one to another one, which it does not execute.
func (r *run) span(from, to int) {
	for i := from; i < to; {
		r.step(i)
		x := r.p.Code[i]
		if x.Op != api.OpIf && x.Op != api.OpEach {
			r.simple(x)
			i++
			continue
		}
		other, end := r.match(i)
		if x.Op == api.OpEach {
			if s := r.text(); s != "" {
				for _, piece := range strings.Split(s, string([]byte{x.Arg})) {
					r.push(piece)
					r.span(i+1, end)
					r.step(end)
				}
			}
		} else if r.number().Sign() != 0 {
			if other > 0 {
				r.span(i+1, other)
				r.step(other)
			} else {
				r.span(i+1, end)
			}
			r.step(end)
		} else if other > 0 {
			r.span(other+1, end)
			r.step(end)
		}
		i = end + 1
	}
}

// match returns where the OpElse is, or 0, and the OpEnd of the block that is opened there.
func (r *run) match(i int) (other, end int) {
	for open := 0; ; i++ {
		switch r.p.Code[i].Op {
		case api.OpIf, api.OpEach:
			open++
		case api.OpElse:
			if open == 1 {
				other = i
			}
		case api.OpEnd:
			if open--; open == 0 {
				return other, i
			}
		}
	}
}

// step begins a step.
func (r *run) step(i int) {
	if len(r.path) == r.fuel {
		panic(api.ErrFuel)
	}
	r.path = append(r.path, i)
	kinds := ""
	for _, v := range r.stack {
		if _, is := v.(string); is {
			kinds += "T"
		} else {
			kinds += "N"
		}
	}
	if kinds != r.kinds[i] {
		r.t.Fatalf("%s: at %d: %s, not %s", lines(r.p), i, kinds, r.kinds[i])
	}
}

func (r *run) push(v any) { r.stack = append(slices.Clone(r.stack), v) }

func (r *run) pop() any {
	v := r.stack[len(r.stack)-1]
	r.stack = r.stack[:len(r.stack)-1]
	return v
}

func (r *run) number() *big.Int { return r.pop().(*big.Int) }
func (r *run) text() string     { return r.pop().(string) }

// truth pushes 1 or 0.
func (r *run) truth(is bool) { r.push(big.NewInt(map[bool]int64{true: 1}[is])) }

// digits are those of a number, of whatever size.
var digits = regexp.MustCompile(`^(0|-?[1-9][0-9]*)$`)

// signed returns the signed number of 64 bits that is n, modulo 2^64.
func signed(n *big.Int) *big.Int {
	whole := new(big.Int).Lsh(big.NewInt(1), 64)
	n = new(big.Int).Mod(n, whole)
	if n.BitLen() == 64 {
		n.Sub(n, whole)
	}
	return n
}

// clamp returns what n becomes in the range from 0 to most.
func clamp(n *big.Int, most int) int {
	switch {
	case n.Sign() < 0:
		return 0
	case n.Cmp(big.NewInt(int64(most))) > 0:
		return most
	}
	return int(n.Int64())
}

// parsed returns the number whose digits s is, or 0.
func parsed(s string) *big.Int {
	n := new(big.Int)
	if digits.MatchString(s) {
		n.SetString(s, 10)
	}
	if signed(n).Cmp(n) != 0 {
		return new(big.Int)
	}
	return n
}

// simple does what x does, which is none that opens a block.
func (r *run) simple(x api.Ins) {
	switch x.Op {
	case api.OpText:
		r.push(r.p.Texts[x.Arg])
	case api.OpNum:
		r.push(big.NewInt(int64(x.Arg)))
	case api.OpIn:
		r.push(r.in[x.Arg])
	case api.OpCat:
		b, a := r.text(), r.text()
		if len(a+b) > 1024 {
			panic(api.ErrLong)
		}
		r.push(a + b)
	case api.OpLen:
		r.push(big.NewInt(int64(len(r.text()))))
	case api.OpPart:
		count, position, s := r.number(), r.number(), r.text()
		s = s[clamp(position, len(s)):]
		r.push(s[:clamp(count, len(s))])
	case api.OpParse:
		r.push(parsed(r.text()))
	case api.OpShow:
		r.push(r.number().String())
	case api.OpAdd:
		r.push(signed(new(big.Int).Add(r.number(), r.number())))
	case api.OpMul:
		r.push(signed(new(big.Int).Mul(r.number(), r.number())))
	case api.OpLess:
		b, a := r.number(), r.number()
		r.truth(a.Cmp(b) < 0)
	case api.OpSame:
		r.truth(r.text() == r.text())
	case api.OpNot:
		r.truth(r.number().Sign() == 0)
	case api.OpDrop:
		r.pop()
	case api.OpDup:
		r.push(r.stack[len(r.stack)-1])
	case api.OpSwap:
		b, a := r.pop(), r.pop()
		r.push(b)
		r.push(a)
	case api.OpGet:
		r.push(r.regs[x.Arg])
	case api.OpSet:
		r.regs[x.Arg] = r.pop()
	case api.OpEmit:
		v, k := r.text(), r.text()
		if len(r.pairs) == 256 {
			panic(api.ErrFull)
		}
		r.pairs = append(r.pairs, api.Pair{Key: k, Value: v})
	default:
		r.t.Fatalf("%v is within no block", x)
	}
}

// roles returns all roles.
func roles() []uint8 { return []uint8{api.RoleMap, api.RoleJoin, api.RoleTell} }

// given returns as many of these inputs as a role has.
func given(role uint8, in ...string) []string {
	if role == api.RoleMap {
		return in[:1]
	}
	return in[:2]
}

// all asks for all programs that begin as p, and go on with at most n of these instructions, and fails unless the functions agree with the model on those that are accepted. What stands behind a wrong instruction is not gone into.
func all(t *testing.T, p api.Prog, role uint8, l []api.Ins, n int, try func(api.Prog)) (accepted int) {
	t.Helper()
	at, e := verify.Check(p, role)
	if e == api.OK {
		accepted++
		try(p)
	}
	if n == 0 || at < len(p.Code) && e != api.OK {
		return accepted
	}
	for _, x := range l {
		q := p
		q.Code = append(p.Code[:len(p.Code):len(p.Code)], x)
		accepted += all(t, q, role, l, n-1, try)
	}
	return accepted
}

// P14.1, P14.2: all short programs with each Op, behind others that put strings and numbers there.
func TestShortAll(t *testing.T) {
	l := read("text 0; num 0; num 3; in 0; cat; len; part; parse; show; add; mul; less; same; not; drop; dup; swap; get 0; get 4; set 0; set 4; if; else; end; each 44; emit").Code
	for role, begin := range map[uint8][]string{
		api.RoleMap:  {"", "in 0; in 0; parse; ", "in 0; text 0; num 2; num 3; "},
		api.RoleJoin: {"", "in 1; parse; in 0; ", "in 1; in 0; num 1; ", "in 0; in 1; parse; num 7; "},
	} {
		for _, s := range begin {
			p := read(s)
			p.Texts = []string{"12,3"}
			n := all(t, p, role, l, 4, func(p api.Prog) {
				agree(t, p, role, given(role, "7", "-5"), api.MaxFuel)
				agree(t, p, role, given(role, "a,,b", ",x"), api.MaxFuel)
			})
			if n < 100 {
				t.Errorf("role %d, %s: only %d programs were accepted", role, s, n)
			}
		}
	}
}

// P14.1, P14.2: all programs of some length that have little else than blocks, with each amount of fuel.
func TestBlocksAll(t *testing.T) {
	l := read("num 0; num 1; in 0; drop; if; else; end; each 44").Code
	for _, in := range []string{"", "a", ",", "a,b"} {
		n := all(t, api.Prog{}, api.RoleMap, l, 7, func(p api.Prog) {
			whole := agree(t, p, api.RoleMap, []string{in}, api.MaxFuel)
			for fuel := range min(whole.ran.Steps+2, 8) {
				agree(t, p, api.RoleMap, []string{in}, fuel)
			}
		})
		if n < 500 {
			t.Errorf("only %d programs were accepted", n)
		}
	}
}

// maker makes a random program that is accepted.
type maker struct {
	r    *rand.Rand
	role uint8
	p    api.Prog
}

// marks are bytes at which strings are divided; some of them are in all strings that are made.
const marks = ",a\x00\xff"

// text returns a random string of up to most bytes.
func text(r *rand.Rand, most int) string {
	switch r.IntN(6) {
	case 0, 1:
		s := strings.Repeat("-", r.IntN(2)) + "9223372036854775807"[:1+r.IntN(19)]
		return s[:min(len(s), most)]
	case 2:
		i := r.IntN(len(marks))
		return strings.Repeat(marks[i:i+1], r.IntN(most+1))
	}
	b := make([]byte, r.IntN(most+1))
	for i := range b {
		b[i] = (marks + "0123-xyz")[r.IntN(len(marks)+8)]
	}
	return string(b)
}

// made returns a random program that is accepted, of some size.
func made(r *rand.Rand, role uint8) api.Prog {
	m := maker{r: r, role: role}
	for range 1 + r.IntN(4) {
		m.p.Texts = append(m.p.Texts, text(r, api.MaxConst))
	}
	if r.IntN(4) == 0 { // so that some runs go through many pieces
		m.add(api.OpIn, 0)
		m.block(api.OpEach, "", r.IntN(20), 1)
	}
	kinds := m.some("", 3+r.IntN(90), 0)
	m.reach(kinds, map[uint8]string{api.RoleMap: ""}[role])
	if role != api.RoleMap {
		m.reach("", "T")
	}
	return m.p
}

// add adds an instruction.
func (m *maker) add(op, arg uint8) { m.p.Code = append(m.p.Code, api.Ins{Op: op, Arg: arg}) }

// reach adds what makes a stack of these kinds have those that are wanted.
func (m *maker) reach(kinds, want string) {
	for !strings.HasPrefix(want, kinds) {
		m.add(api.OpDrop, 0)
		kinds = kinds[:len(kinds)-1]
	}
	for _, kind := range want[len(kinds):] {
		switch {
		case kind == 'N' && m.r.IntN(2) == 0:
			m.add(api.OpGet, uint8(m.r.IntN(4)))
		case kind == 'N':
			m.add(api.OpNum, uint8(m.r.IntN(3)))
		case m.r.IntN(2) == 0:
			m.add(api.OpGet, uint8(4+m.r.IntN(4)))
		default:
			m.add(api.OpIn, uint8(m.r.IntN(len(given(m.role, "", "")))))
		}
	}
}

// simples are the Ops that open no block and have no Arg, with what they pop and push.
var simples = map[uint8][2]string{
	api.OpCat: {"TT", "T"}, api.OpLen: {"T", "N"}, api.OpPart: {"TNN", "T"}, api.OpParse: {"T", "N"}, api.OpShow: {"N", "T"},
	api.OpAdd: {"NN", "N"}, api.OpMul: {"NN", "N"}, api.OpLess: {"NN", "N"}, api.OpSame: {"TT", "N"}, api.OpNot: {"N", "N"},
}

// some adds n instructions, or a few more, to a stack of these kinds, and returns the kinds that come of it.
func (m *maker) some(kinds string, n, depth int) string {
	for end := len(m.p.Code) + n; len(m.p.Code) < end; {
		op := uint8(1 + m.r.IntN(api.Ops))
		last := kinds[max(0, len(kinds)-1):]
		if f, is := simples[op]; is && strings.HasSuffix(kinds, f[0]) {
			m.add(op, 0)
			kinds = strings.TrimSuffix(kinds, f[0]) + f[1]
			continue
		}
		switch {
		case (op == api.OpIf && last == "N" || op == api.OpEach && last == "T") && depth < api.MaxBlocks:
			kinds = m.block(op, kinds[:len(kinds)-1], n/2, depth+1)
		case op == api.OpSwap && len(kinds) > 1:
			m.add(op, 0)
			kinds = kinds[:len(kinds)-2] + last + kinds[len(kinds)-2:][:1]
		case op == api.OpSet && last != "":
			m.add(op, uint8(strings.Index("NxxxT", last)+m.r.IntN(4)))
			kinds = kinds[:len(kinds)-1]
		case op == api.OpDrop && last != "":
			m.add(op, 0)
			kinds = kinds[:len(kinds)-1]
		case op == api.OpEmit && m.role == api.RoleMap && strings.HasSuffix(kinds, "TT"):
			m.add(op, 0)
			kinds = kinds[:len(kinds)-2]
		case op == api.OpDup && last != "" && len(kinds) < api.MaxStack:
			m.add(op, 0)
			kinds += last
		case op == api.OpText && len(kinds) < api.MaxStack:
			m.add(op, uint8(m.r.IntN(len(m.p.Texts))))
			kinds += "T"
		case op <= api.OpIn && len(kinds) < api.MaxStack:
			kind := "NT"[m.r.IntN(2):][:1]
			m.reach(kinds, kinds+kind)
			kinds += kind
		}
	}
	return kinds
}

// block adds a block of some size, opened with these kinds, and returns the kinds that come of it.
func (m *maker) block(op uint8, kinds string, n, depth int) string {
	if op == api.OpEach {
		m.add(op, marks[m.r.IntN(len(marks))])
		if m.role == api.RoleMap && m.r.IntN(2) == 0 && len(kinds)+3 <= api.MaxStack {
			m.add(api.OpDup, 0)
			m.add(api.OpDup, 0)
			m.add(api.OpEmit, 0)
		}
		m.reach(m.some(kinds+"T", n, depth), kinds)
		m.add(api.OpEnd, 0)
		return kinds
	}
	m.add(op, 0)
	end := m.some(kinds, n, depth)
	if m.r.IntN(2) == 0 {
		m.reach(end, kinds)
		end = kinds
	} else {
		m.add(api.OpElse, 0)
		m.reach(m.some(kinds, n, depth), end)
	}
	m.add(api.OpEnd, 0)
	return end
}

// random returns a random program that is accepted, and within the limits, and its role, and inputs.
func random(r *rand.Rand) (api.Prog, uint8, []string) {
	for {
		role := roles()[r.IntN(3)]
		if p := made(r, role); len(p.Code) <= api.MaxCode {
			most := []int{0, 10, 100, api.MaxVal}[r.IntN(4)]
			return p, role, given(role, text(r, most), text(r, most))
		}
	}
}

// P14.1, P14.2, P14.3: long programs; with more fuel than was used the same comes of them, with less ErrFuel, and the first steps.
func TestRandom(t *testing.T) {
	r := rand.New(rand.NewPCG(14, 1))
	ended := map[api.Errno]int{}
	for range 6000 {
		p, role, in := random(r)
		if at, e := verify.Check(p, role); e != api.OK {
			t.Fatalf("role %d, %s: %v at %d, not accepted", role, lines(p), e, at)
		}
		a := agree(t, p, role, in, 4000)
		ended[a.e]++
		if a.e == api.ErrFuel {
			continue
		}
		used := len(a.path)
		for _, fuel := range []int{used, used + 1, used + r.IntN(api.MaxFuel-used), api.MaxFuel} {
			if b := ask(t, p, role, in, fuel); !b.same(a) {
				t.Fatalf("role %d, %s of %q, fuel %d: %v, not %v", role, lines(p), in, fuel, b, a)
			}
		}
		for _, fuel := range []int{used - 1, r.IntN(used + 1)} {
			if fuel < 0 || fuel == used {
				continue
			}
			if b := ask(t, p, role, in, fuel); !b.same(outcome{e: api.ErrFuel, path: a.path[:fuel]}) {
				t.Fatalf("role %d, %s of %q, fuel %d: %v, not the first steps of %v", role, lines(p), in, fuel, b, a.path)
			}
		}
	}
	for _, e := range []api.Errno{api.OK, api.ErrFuel, api.ErrLong, api.ErrFull} {
		if ended[e] < 5 {
			t.Errorf("%v: only %d runs", e, ended[e])
		}
	}
	if len(ended) != 4 {
		t.Errorf("runs ended otherwise: %v", ended)
	}
}
