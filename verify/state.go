package verify

import "maslin/api"

// stack has values, the last one on top.
type stack[V any] []V

// block is one that is open: its latest instruction, OpIf, OpElse or OpEach, and where that is; the kinds with which it was opened, and those that its OpEnd must meet.
type block struct {
	op           uint8
	at           int
	opened, want string
}

// state is where the processing of a program has come to, with what was found so far.
type state struct {
	found
	role   uint8
	texts  int
	kinds  string
	blocks stack[block]
}

func (s *stack[V]) push(v V) { *s = append(*s, v) }
func (s *stack[V]) pop()     { *s = (*s)[:len(*s)-1] }
func (s stack[V]) top() *V   { return &s[len(s)-1] }

// step processes x, the instruction at this index.
func (s *state) step(at int, x api.Ins) api.Errno {
	if e := s.known(x); e != api.OK {
		return e
	}
	if !s.nests(x.Op) {
		return api.ErrBlock
	}
	f := effectOf(x)
	rest := len(s.kinds) - len(f.pops)
	switch {
	case rest < 0:
		return api.ErrStack
	case !f.fits(s.kinds[rest:]):
		return api.ErrKind
	case rest+len(f.pushes) > api.MaxStack:
		return api.ErrStack
	}
	pushed := f.pushed(s.kinds[rest:])
	s.kinds = s.kinds[:rest]
	if e := s.turn(at, x.Op); e != api.OK {
		return e
	}
	s.kinds += pushed
	return api.OK
}

// known returns an error if x names what is not there, or is not for the role.
func (s *state) known(x api.Ins) api.Errno {
	arg, there := int(x.Arg), true
	switch x.Op {
	case api.OpText:
		there = arg < s.texts
	case api.OpIn:
		there = arg < inputs(s.role)
	case api.OpGet, api.OpSet:
		there = arg < api.Regs
	}
	switch {
	case !there:
		return api.ErrNone
	case x.Op == api.OpEmit && s.role != api.RoleMap:
		return api.ErrRole
	}
	return api.OK
}

// nests reports whether the blocks that are open are such that op may stand here.
func (s *state) nests(op uint8) bool {
	open := len(s.blocks)
	switch op {
	case api.OpIf, api.OpEach:
		return open < api.MaxBlocks
	case api.OpElse:
		return open > 0 && s.blocks.top().op == api.OpIf
	case api.OpEnd:
		return open > 0
	}
	return true
}

// turn opens a block, goes on to its other half, or closes it, if op does that; s.kinds are those that remain when op has popped.
func (s *state) turn(at int, op uint8) api.Errno {
	switch op {
	case api.OpIf, api.OpEach:
		s.blocks.push(block{op: op, at: at, opened: s.kinds, want: s.kinds})
	case api.OpElse:
		b := s.blocks.top()
		s.ends[b.at] = at
		b.op, b.at, b.want = op, at, s.kinds
		s.kinds = b.opened
	case api.OpEnd:
		b := s.blocks.top()
		if s.kinds != b.want {
			return api.ErrBlock
		}
		s.ends[b.at] = at
		s.blocks.pop()
	}
	return api.OK
}

// finish returns what is wrong at the end of the program.
func (s *state) finish() api.Errno {
	want := left(s.role)
	switch {
	case len(s.blocks) > 0:
		return api.ErrBlock
	case len(s.kinds) != len(want):
		return api.ErrStack
	case s.kinds != want:
		return api.ErrKind
	}
	return api.OK
}
