package vm

import (
	"strings"

	"maslin/api"
)

// value is a number, or a string. It need not tell which: whether a program takes the one that was put there was found out when it was verified.
type value struct {
	number int64
	text   string
}

// loop is an OpEach that is gone through: where its instructions begin, where its OpEnd is, and what tells its next piece.
type loop struct {
	begin, end int
	piece      func() (string, bool)
}

// machine is a run, and where it has come to: the instruction that is executed, the one with which it continues, and the error that ends it, if there is one.
type machine struct {
	does      [api.Ops + 1]action
	prog      api.Prog
	ends      []int
	in        []string
	stack     []value
	registers [api.Regs]value
	loops     []loop
	pairs     []api.Pair
	at, next  int
	failed    api.Errno
}

// run executes steps up to the end, or to the first error, and tells each that has begun.
func (m *machine) run(fuel int, tell func(at int)) api.Errno {
	for m.at < len(m.prog.Code) && m.failed == api.OK {
		if fuel == 0 {
			return api.ErrFuel
		}
		fuel--
		tell(m.at)
		m.step()
	}
	return m.failed
}

// step executes one instruction. It sets m.next first, so that only those need to which continue elsewhere.
func (m *machine) step() {
	x := m.prog.Code[m.at]
	m.next = m.at + 1
	m.does[x.Op](m, x.Arg)
	m.at = m.next
}

func (m *machine) push(v value)       { m.stack = append(m.stack, v) }
func (m *machine) pushNumber(n int64) { m.push(value{number: n}) }
func (m *machine) pushText(s string)  { m.push(value{text: s}) }

// pushTruth pushes 1 if it is true, else 0.
func (m *machine) pushTruth(is bool) {
	if is {
		m.pushNumber(1)
	} else {
		m.pushNumber(0)
	}
}

func (m *machine) pop() value {
	last := len(m.stack) - 1
	v := m.stack[last]
	m.stack = m.stack[:last]
	return v
}

func (m *machine) popNumber() int64 { return m.pop().number }
func (m *machine) popText() string  { return m.pop().text }

// popNumbers pops two, and returns them in the order in which they were pushed.
func (m *machine) popNumbers() (a, b int64) {
	b, a = m.popNumber(), m.popNumber()
	return a, b
}

// popTexts pops two, and returns them in the order in which they were pushed.
func (m *machine) popTexts() (a, b string) {
	b, a = m.popText(), m.popText()
	return a, b
}

// turn goes through the innermost loop with its next piece. If there is none, the loop is over.
func (m *machine) turn() {
	last := len(m.loops) - 1
	l := m.loops[last]
	piece, is := l.piece()
	if !is {
		m.loops = m.loops[:last]
		return
	}
	m.pushText(piece)
	m.next = l.begin
}

// pieces returns what tells the parts of s one after another, as the byte mark divides it; none of the empty string.
func pieces(s string, mark byte) func() (string, bool) {
	between := string([]byte{mark})
	more := s != ""
	return func() (piece string, is bool) {
		if !more {
			return "", false
		}
		piece, s, more = strings.Cut(s, between)
		return piece, true
	}
}
