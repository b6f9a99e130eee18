package verify_test

import (
	"math/rand/v2"
	"slices"
	"strings"
	"testing"

	"maslin/api"
	"maslin/code"
	"maslin/verify"
)

// answer is what the functions return of a program, all of them together.
type answer struct {
	at    int
	e     api.Errno
	kinds []string
	deep  int
	ends  []int
}

// same reports whether a and b are the same: a nil list and an empty one are.
func (a answer) same(b answer) bool {
	return a.at == b.at && a.e == b.e && a.deep == b.deep && slices.Equal(a.kinds, b.kinds) && slices.Equal(a.ends, b.ends)
}

// ask returns what the functions return of p. It fails if they do not agree on the error.
func ask(t *testing.T, p api.Prog, role uint8) answer {
	t.Helper()
	var a answer
	a.at, a.e = verify.Check(p, role)
	var kinds, deep, ends api.Errno
	a.kinds, kinds = verify.Kinds(p, role)
	a.deep, deep = verify.Deep(p, role)
	a.ends, ends = verify.Ends(p, role)
	if kinds != a.e || deep != a.e || ends != a.e {
		t.Fatalf("role %d, %s: Check: %v, Kinds: %v, Deep: %v, Ends: %v", role, lines(p), a.e, kinds, deep, ends)
	}
	return a
}

// lines returns the lines of p's instructions, for a message.
func lines(p api.Prog) string {
	var l []string
	for _, x := range p.Code {
		s, _ := code.Line(x)
		l = append(l, s)
	}
	return strings.Join(l, ", ")
}

// agree fails unless the functions return of p what the model does, which it returns.
func agree(t *testing.T, p api.Prog, role uint8) answer {
	t.Helper()
	want := model(p, role)
	if a := ask(t, p, role); !a.same(want) {
		t.Fatalf("role %d, %d strings, %s: %v, not %v", role, len(p.Texts), lines(p), a, want)
	}
	return want
}

// open is a block that is open, for the model: the indices of its instructions so far, and the kinds when it was opened, and those at its OpElse.
type open struct {
	each          bool
	places        []int
	opened, other string
}

// model returns what the functions are to return of p, which is a program, for a role: the chapter, sentence by sentence.
func model(p api.Prog, role uint8) answer {
	var a answer
	kinds := ""
	var blocks []open
	a.ends = make([]int, len(p.Code))
	for i, x := range p.Code {
		a.kinds = append(a.kinds, kinds)
		if e := wrong(p, role, x, kinds, blocks); e != api.OK {
			return answer{at: i, e: e}
		}
		pops, pushes := effect(x, kinds)
		kinds = kinds[:len(kinds)-len(pops)]
		switch x.Op {
		case api.OpIf, api.OpEach:
			blocks = append(blocks, open{each: x.Op == api.OpEach, places: []int{i}, opened: kinds})
		case api.OpElse:
			b := blocks[len(blocks)-1]
			blocks = append(slices.Clone(blocks[:len(blocks)-1]), open{places: append(slices.Clone(b.places), i), opened: b.opened, other: kinds})
			kinds = b.opened
		case api.OpEnd:
			b := blocks[len(blocks)-1]
			blocks = blocks[:len(blocks)-1]
			for n, place := range b.places {
				a.ends[place] = append(b.places, i)[n+1]
			}
		}
		kinds += pushes
		a.deep = max(a.deep, len(kinds))
	}
	if e := wrongEnd(role, kinds, len(blocks)); e != api.OK {
		return answer{at: len(p.Code), e: e}
	}
	return a
}

// wrong returns what is wrong with x, for the model, where the stack has these kinds, and these blocks are open.
func wrong(p api.Prog, role uint8, x api.Ins, kinds string, blocks []open) api.Errno {
	in := map[uint8]uint8{api.RoleMap: 1, api.RoleJoin: 2, api.RoleTell: 2}[role]
	n := len(blocks)
	switch {
	case x.Op == api.OpText && int(x.Arg) >= len(p.Texts),
		x.Op == api.OpIn && x.Arg >= in,
		(x.Op == api.OpGet || x.Op == api.OpSet) && x.Arg >= 8:
		return api.ErrNone
	case x.Op == api.OpEmit && role != api.RoleMap:
		return api.ErrRole
	case x.Op == api.OpElse && (n == 0 || blocks[n-1].each || len(blocks[n-1].places) == 2),
		x.Op == api.OpEnd && n == 0,
		(x.Op == api.OpIf || x.Op == api.OpEach) && n == 8:
		return api.ErrBlock
	}
	pops, pushes := effect(x, kinds)
	switch {
	case len(kinds) < len(pops):
		return api.ErrStack
	case !strings.HasSuffix(kinds, pops):
		return api.ErrKind
	case len(kinds)-len(pops)+len(pushes) > 16:
		return api.ErrStack
	}
	if x.Op == api.OpEnd {
		b := blocks[n-1]
		if len(b.places) == 2 && kinds != b.other || len(b.places) == 1 && kinds != b.opened {
			return api.ErrBlock
		}
	}
	return api.OK
}

// wrongEnd returns what is wrong at the end, for the model.
func wrongEnd(role uint8, kinds string, blocks int) api.Errno {
	switch {
	case blocks > 0:
		return api.ErrBlock
	case role == api.RoleMap && len(kinds) != 0, role != api.RoleMap && len(kinds) != 1:
		return api.ErrStack
	case role != api.RoleMap && kinds != "T":
		return api.ErrKind
	}
	return api.OK
}

// effect returns the kinds that x pops, and those that it pushes, for the model. If they may be any, they are those of the stack; if there are too few, any others.
func effect(x api.Ins, kinds string) (pops, pushes string) {
	above := "NNNN"[:max(0, 4-len(kinds))] + kinds
	one, two := above[len(above)-1:], above[len(above)-2:]
	register := "NNNNTTTT"[x.Arg%8:][:1]
	switch x.Op {
	case api.OpText, api.OpIn:
		return "", "T"
	case api.OpNum:
		return "", "N"
	case api.OpCat:
		return "TT", "T"
	case api.OpLen, api.OpParse:
		return "T", "N"
	case api.OpPart:
		return "TNN", "T"
	case api.OpShow:
		return "N", "T"
	case api.OpAdd, api.OpMul, api.OpLess:
		return "NN", "N"
	case api.OpSame:
		return "TT", "N"
	case api.OpNot:
		return "N", "N"
	case api.OpDrop:
		return one, ""
	case api.OpDup:
		return one, one + one
	case api.OpSwap:
		return two, two[1:] + two[:1]
	case api.OpGet:
		return "", register
	case api.OpSet:
		return register, ""
	case api.OpIf:
		return "N", ""
	case api.OpEach:
		return "T", "T"
	case api.OpEmit:
		return "TT", ""
	}
	return "", "" // OpElse, OpEnd
}

// roles returns all roles.
func roles() []uint8 { return []uint8{api.RoleMap, api.RoleJoin, api.RoleTell} }

// kit returns instructions: each Op, and where it asks for its Arg, those next to what it asks for; for programs of one string.
func kit() []api.Ins {
	var l []api.Ins
	for op := uint8(1); op <= api.Ops; op++ {
		l = append(l, api.Ins{Op: op})
	}
	for _, arg := range []uint8{1, 2} {
		l = append(l, api.Ins{Op: api.OpText, Arg: arg}, api.Ins{Op: api.OpIn, Arg: arg})
	}
	for _, arg := range []uint8{3, 4, 7, 8} {
		l = append(l, api.Ins{Op: api.OpGet, Arg: arg}, api.Ins{Op: api.OpSet, Arg: arg})
	}
	return l
}

// all fails unless the functions agree with the model on all programs that begin as p, and go on with at most n of these instructions. What stands behind a wrong instruction is not gone into.
func all(t *testing.T, p api.Prog, role uint8, l []api.Ins, n int) (accepted int) {
	t.Helper()
	a := agree(t, p, role)
	if a.e == api.OK {
		accepted++
	}
	if n == 0 || a.at < len(p.Code) && a.e != api.OK {
		return accepted
	}
	for _, x := range l {
		q := p
		q.Code = append(p.Code[:len(p.Code):len(p.Code)], x)
		accepted += all(t, q, role, l, n-1)
	}
	return accepted
}

// P13.1, P13.2: all short programs, with each Op.
func TestShortAll(t *testing.T) {
	for _, role := range roles() {
		if n := all(t, api.Prog{Texts: []string{"a"}}, role, kit(), 4); n < 500 {
			t.Errorf("role %d: only %d programs were accepted", role, n)
		}
	}
}

// P13.1, P13.2: all programs of some length that have little else than blocks.
func TestBlocksAll(t *testing.T) {
	l := read("num 0; in 0; drop; if; else; end; each 0").Code
	for _, role := range roles() {
		if n := all(t, api.Prog{}, role, l, 7); n < 100 {
			t.Errorf("role %d: only %d programs were accepted", role, n)
		}
	}
}

// P13.1, P13.2: what comes when the stack is nearly full, and when nearly as many blocks are open as may be.
func TestBrimAll(t *testing.T) {
	for _, role := range roles() {
		for _, s := range []string{"num 0; ", "in 0; "} {
			for n := api.MaxStack - 2; n <= api.MaxStack; n++ {
				p := read(strings.Repeat(s, n))
				p.Texts = []string{"a"}
				all(t, p, role, kit(), 2)
			}
		}
		for _, s := range []string{"num 0; if; ", "in 0; each 0; ", "in 0; dup; each 0; ", "num 0; num 0; if; else; "} {
			for n := api.MaxBlocks - 1; n <= api.MaxBlocks; n++ {
				p := read(strings.Repeat(s, n))
				p.Texts = []string{"a"}
				all(t, p, role, kit(), 2)
				p.Code = append(p.Code, read("num 0; in 0; num 0").Code...)
				all(t, p, role, kit(), 2)
			}
		}
	}
}

// maker makes a random program that is accepted.
type maker struct {
	r      *rand.Rand
	role   uint8
	p      api.Prog
	kinds  string
	blocks []open
}

// made returns a random program that is accepted, of some size.
func made(r *rand.Rand, role uint8) api.Prog {
	m := maker{r: r, role: role}
	for range r.IntN(api.MaxTexts + 1) {
		m.p.Texts = append(m.p.Texts, strings.Repeat("t", r.IntN(5)))
	}
	for range r.IntN(120) {
		m.more()
	}
	for len(m.blocks) > 0 {
		m.close()
	}
	m.reach(map[uint8]string{api.RoleMap: "", api.RoleJoin: "T", api.RoleTell: "T"}[role])
	return m.p
}

// more adds an instruction that may stand here, or closes a block.
func (m *maker) more() {
	if len(m.blocks) > 0 && m.r.IntN(8) == 0 {
		m.close()
		return
	}
	for range 20 {
		x := api.Ins{Op: uint8(1 + m.r.IntN(api.Ops)), Arg: uint8(m.r.IntN(17))}
		if code.Check(api.Prog{Code: []api.Ins{x}}) != api.OK {
			x.Arg = 0
		}
		if x.Op != api.OpEnd && x.Op != api.OpElse && wrong(m.p, m.role, x, m.kinds, m.blocks) == api.OK {
			m.add(x)
			return
		}
	}
}

// add adds x, which may stand here.
func (m *maker) add(x api.Ins) {
	pops, pushes := effect(x, m.kinds)
	m.kinds = m.kinds[:len(m.kinds)-len(pops)]
	if x.Op == api.OpIf || x.Op == api.OpEach {
		m.blocks = append(m.blocks, open{each: x.Op == api.OpEach, opened: m.kinds})
	}
	m.kinds += pushes
	m.p.Code = append(m.p.Code, x)
}

// reach adds what makes the stack have these kinds.
func (m *maker) reach(kinds string) {
	for !strings.HasPrefix(kinds, m.kinds) {
		m.add(api.Ins{Op: api.OpDrop})
	}
	for _, kind := range kinds[len(m.kinds):] {
		if kind == 'N' {
			m.add(api.Ins{Op: api.OpNum, Arg: uint8(m.r.IntN(256))})
		} else {
			m.add(api.Ins{Op: api.OpIn})
		}
	}
}

// close closes the last block, now and then by way of an OpElse.
func (m *maker) close() {
	b := m.blocks[len(m.blocks)-1]
	if !b.each && m.r.IntN(2) == 0 {
		want := m.kinds
		m.p.Code = append(m.p.Code, api.Ins{Op: api.OpElse})
		m.kinds = b.opened
		m.reach(want)
	} else {
		m.reach(b.opened)
	}
	m.blocks = m.blocks[:len(m.blocks)-1]
	m.p.Code = append(m.p.Code, api.Ins{Op: api.OpEnd})
}

// random returns a random program that is accepted, and within the limits, and its role.
func random(r *rand.Rand) (api.Prog, uint8) {
	for {
		role := roles()[r.IntN(3)]
		if p := made(r, role); len(p.Code) <= api.MaxCode {
			return p, role
		}
	}
}

// P13.1, P13.2: long programs that are accepted, and what they become when an instruction is another one, is gone, comes in, or changes places with the next one.
func TestRandom(t *testing.T) {
	r := rand.New(rand.NewPCG(13, 1))
	l := kit()
	blocks, stack := 0, 0
	for range 1500 {
		p, role := random(r)
		a := agree(t, p, role)
		if a.e != api.OK {
			t.Fatalf("role %d, %s: %v at %d, not accepted", role, lines(p), a.e, a.at)
		}
		stack, blocks = max(stack, a.deep), max(blocks, nested(p))
		for range 5 {
			if len(p.Code) < 2 {
				break
			}
			q := p
			q.Code = slices.Clone(p.Code)
			i := r.IntN(len(q.Code) - 1)
			switch r.IntN(4) {
			case 0:
				q.Code[i] = l[r.IntN(len(l))]
			case 1:
				q.Code = slices.Delete(q.Code, i, i+1)
			case 2:
				q.Code[i], q.Code[i+1] = q.Code[i+1], q.Code[i]
			case 3:
				q.Code = slices.Insert(q.Code, i, l[r.IntN(len(l))])[:len(p.Code)]
			}
			agree(t, q, roles()[r.IntN(3)])
			agree(t, q, role)
		}
	}
	if stack != api.MaxStack || blocks != api.MaxBlocks {
		t.Errorf("at most %d values, and %d blocks", stack, blocks)
	}
}

// nested returns how many blocks are open in p at most.
func nested(p api.Prog) int {
	most := 0
	for n := range p.Code {
		most = max(most, opened(p.Code[:n+1]))
	}
	return most
}

// opened returns how many blocks are open behind these instructions.
func opened(l []api.Ins) int {
	n := 0
	for _, x := range l {
		switch x.Op {
		case api.OpIf, api.OpEach:
			n++
		case api.OpEnd:
			n--
		}
	}
	return n
}

// P13.2: whichever way a program goes, by its Ends, the stack has the kinds of Kinds, and never more values than Deep, which it has at some place.
func TestWaysThrough(t *testing.T) {
	r := rand.New(rand.NewPCG(13, 2))
	for range 1000 {
		p, role := random(r)
		a := ask(t, p, role)
		most := 0
		for _, kinds := range a.kinds {
			most = max(most, len(kinds))
		}
		if role != api.RoleMap {
			most = max(most, 1)
		}
		if a.deep != most {
			t.Fatalf("role %d, %s: Deep: %d, not %d", role, lines(p), a.deep, most)
		}
		for range 5 {
			goThrough(t, r, p, a)
		}
	}
}

// goThrough goes through p a random way. It fails if somewhere the stack has other kinds than a tells.
func goThrough(t *testing.T, r *rand.Rand, p api.Prog, a answer) {
	t.Helper()
	begin := map[int]int{}
	for i, x := range p.Code {
		if x.Op == api.OpEach {
			begin[a.ends[i]] = i
		}
	}
	kinds := ""
	for at, steps := 0, 0; at < len(p.Code) && steps < 1000; steps++ {
		if kinds != a.kinds[at] {
			t.Fatalf("%s: at %d: %s, not %s", lines(p), at, kinds, a.kinds[at])
		}
		x := p.Code[at]
		pops, pushes := effect(x, kinds)
		kinds = kinds[:len(kinds)-len(pops)]
		again, each := begin[at]
		switch {
		case x.Op == api.OpElse, (x.Op == api.OpIf || x.Op == api.OpEach) && r.IntN(3) == 0:
			at = a.ends[at] + 1
			continue
		case x.Op == api.OpEnd && each && r.IntN(3) == 0:
			at, pushes = again, "T"
		}
		kinds += pushes
		at++
	}
}

// P13.3: other strings, as many, and other numbers change nothing in a program that is accepted.
func TestReplaced(t *testing.T) {
	r := rand.New(rand.NewPCG(13, 3))
	for range 1000 {
		p, role := random(r)
		q := api.Prog{Texts: slices.Clone(p.Texts), Code: slices.Clone(p.Code)}
		for i := range q.Texts {
			q.Texts[i] = strings.Repeat("\xff", r.IntN(api.MaxConst+1))
		}
		for i, x := range q.Code {
			if x.Op == api.OpNum {
				q.Code[i].Arg = uint8(r.IntN(256))
			}
		}
		if a, b := ask(t, p, role), ask(t, q, role); a.e != api.OK || !a.same(b) {
			t.Fatalf("role %d, %s: %v, and with other strings and numbers, %s: %v", role, lines(p), a, lines(q), b)
		}
	}
}

// P13.3: a proper prefix of a program that is accepted is accepted if no block is open there and the kinds are right, and else it is not.
func TestPrefixes(t *testing.T) {
	r := rand.New(rand.NewPCG(13, 4))
	met := 0
	for range 400 {
		p, role := random(r)
		a := ask(t, p, role)
		for n := range p.Code {
			want := answer{at: n, e: wrongEnd(role, a.kinds[n], opened(p.Code[:n]))}
			if want.e == api.OK {
				met++
				want = model(api.Prog{Texts: p.Texts, Code: p.Code[:n]}, role)
			}
			if b := ask(t, api.Prog{Texts: p.Texts, Code: p.Code[:n]}, role); !b.same(want) {
				t.Fatalf("role %d, %s, up to %d: %v, not %v", role, lines(p), n, b, want)
			}
		}
	}
	if met < 400 {
		t.Errorf("only %d prefixes are programs", met)
	}
}
