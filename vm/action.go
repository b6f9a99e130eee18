package vm

import (
	"strconv"
	"strings"

	"maslin/api"
)

// action does what an Op does, with its Arg.
type action func(m *machine, arg uint8)

// actions returns those of the Ops; 0 is none, and has no action.
func actions() [api.Ops + 1]action {
	return [api.Ops + 1]action{
		api.OpText:  (*machine).text,
		api.OpNum:   (*machine).num,
		api.OpIn:    (*machine).input,
		api.OpCat:   (*machine).cat,
		api.OpLen:   (*machine).length,
		api.OpPart:  (*machine).part,
		api.OpParse: (*machine).parse,
		api.OpShow:  (*machine).show,
		api.OpAdd:   (*machine).add,
		api.OpMul:   (*machine).mul,
		api.OpLess:  (*machine).less,
		api.OpSame:  (*machine).same,
		api.OpNot:   (*machine).not,
		api.OpDrop:  (*machine).drop,
		api.OpDup:   (*machine).dup,
		api.OpSwap:  (*machine).swap,
		api.OpGet:   (*machine).get,
		api.OpSet:   (*machine).set,
		api.OpIf:    (*machine).when,
		api.OpElse:  (*machine).otherwise,
		api.OpEnd:   (*machine).end,
		api.OpEach:  (*machine).each,
		api.OpEmit:  (*machine).emit,
	}
}

func (m *machine) text(arg uint8)  { m.pushText(m.prog.Texts[arg]) }
func (m *machine) num(arg uint8)   { m.pushNumber(int64(arg)) }
func (m *machine) input(arg uint8) { m.pushText(m.in[arg]) }
func (m *machine) length(uint8)    { m.pushNumber(int64(len(m.popText()))) }
func (m *machine) show(uint8)      { m.pushText(strconv.FormatInt(m.popNumber(), 10)) }
func (m *machine) not(uint8)       { m.pushTruth(m.popNumber() == 0) }
func (m *machine) drop(uint8)      { m.pop() }
func (m *machine) get(arg uint8)   { m.push(m.registers[arg]) }
func (m *machine) set(arg uint8)   { m.registers[arg] = m.pop() }

func (m *machine) cat(uint8) {
	a, b := m.popTexts()
	if len(a)+len(b) > api.MaxVal {
		m.failed = api.ErrLong
		return
	}
	m.pushText(a + b)
}

func (m *machine) part(uint8) {
	position, count := m.popNumbers()
	s := m.popText()
	begin := within(position, len(s))
	m.pushText(s[begin : begin+within(count, len(s)-begin)])
}

// within returns n if it is from 0 to most, else the nearer one of these. It is clamped before it becomes an int, which may be narrower.
func within(n int64, most int) int { return int(min(max(n, 0), int64(most))) }

// parse takes a string only if it is what the number would be shown as: that refuses leading zeros, a plus, and -0.
func (m *machine) parse(uint8) {
	s := m.popText()
	n, err := strconv.ParseInt(s, 10, 64)
	if err != nil || strconv.FormatInt(n, 10) != s {
		n = 0
	}
	m.pushNumber(n)
}

func (m *machine) add(uint8) {
	a, b := m.popNumbers()
	m.pushNumber(a + b)
}

func (m *machine) mul(uint8) {
	a, b := m.popNumbers()
	m.pushNumber(a * b)
}

func (m *machine) less(uint8) {
	a, b := m.popNumbers()
	m.pushTruth(a < b)
}

func (m *machine) same(uint8) {
	a, b := m.popTexts()
	m.pushTruth(a == b)
}

func (m *machine) dup(uint8) {
	v := m.pop()
	m.push(v)
	m.push(v)
}

func (m *machine) swap(uint8) {
	b, a := m.pop(), m.pop()
	m.push(b)
	m.push(a)
}

func (m *machine) when(uint8) {
	if m.popNumber() == 0 {
		m.next = m.ends[m.at] + 1
	}
}

// otherwise is reached by what stands ahead of the OpElse, which goes on at the OpEnd.
func (m *machine) otherwise(uint8) { m.next = m.ends[m.at] }

// end is that of an OpEach if it is where the innermost loop ends. That of an OpIf does nothing.
func (m *machine) end(uint8) {
	if last := len(m.loops) - 1; last >= 0 && m.loops[last].end == m.at {
		m.turn()
	}
}

// each continues behind its OpEnd unless there is a first piece.
func (m *machine) each(arg uint8) {
	end := m.ends[m.at]
	m.loops = append(m.loops, loop{begin: m.next, end: end, piece: pieces(m.popText(), arg)})
	m.next = end + 1
	m.turn()
}

// emit copies the strings, of which some may share memory with the inputs.
func (m *machine) emit(uint8) {
	key, val := m.popTexts()
	if len(m.pairs) == api.MaxEmits {
		m.failed = api.ErrFull
		return
	}
	m.pairs = append(m.pairs, api.Pair{Key: strings.Clone(key), Value: strings.Clone(val)})
}
