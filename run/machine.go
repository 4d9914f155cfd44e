package run

import (
	"slices"

	"loanbook/api"
	"loanbook/num"
)

// Machine is a program on its way. It has no temporaries: where what is taken and given lies, each deed's Ends know.
type Machine struct {
	api.Shown
	ins []uint32 // those that were not taken
	at  int
}

// Ends are those of an instruction: they tell what is in its A and B, and give its Dest a number.
type Ends struct {
	A, B func() uint64
	Dest func(uint64)
}

// NewMachine is a machine ahead of its first instruction. It takes a copy, as it outlives the call that ins were handed to.
func NewMachine(ins []uint32) *Machine { return &Machine{ins: slices.Clone(ins)} }

// Wrong tells what is wrong with what is to come in, or with the steps.
func Wrong(ins []uint32, steps int) api.Errno {
	switch {
	case len(ins) > api.MaxIns:
		return api.ErrSize
	case steps < 0 || steps > api.MaxSteps:
		return api.ErrRange
	}
	return api.OK
}

// GoOn does the deeds of a program's instructions, up to so many steps. It asks for the end ahead of the steps: to be Ended is no step, so it needs none to be left.
func (m *Machine) GoOn(deeds []func(), steps int) {
	for m.State == api.Runs {
		if m.at == len(deeds) {
			m.State = api.Ended
			return
		}
		if m.Steps == steps {
			return
		}
		m.step(deeds[m.at])
	}
}

// step goes on to the next instruction ahead of the deed, which may lead elsewhere.
func (m *Machine) step(deed func()) {
	m.Steps++
	m.at++
	deed()
}

// Deed is what is done with an instruction, each time that it is met.
func (m *Machine) Deed(i api.Ins, e Ends) func() {
	switch i.Op {
	case api.XOut:
		return func() { m.Out = append(m.Out, uint32(e.A())) }
	case api.XJump:
		return func() { m.at = i.C }
	case api.XIf:
		return func() {
			if e.A() != 0 {
				m.at = i.C
			}
		}
	case api.XHalt:
		return func() { m.State = api.Halted }
	}
	given := m.giving(i, e)
	return func() { e.Dest(given()) }
}

// giving is what an instruction that has a Dest gives it.
func (m *Machine) giving(i api.Ins, e Ends) func() uint64 {
	switch i.Op {
	case api.XConst:
		return func() uint64 { return uint64(i.N) }
	case api.XMove:
		return e.A
	case api.XIn:
		return func() uint64 { return uint64(m.takeIn()) }
	case api.XPair:
		return func() uint64 { return e.B()<<32 | e.A() }
	case api.XLow:
		return func() uint64 { return uint64(uint32(e.A())) }
	case api.XHigh:
		return func() uint64 { return e.A() >> 32 }
	}
	if i.Op > api.XWide {
		return func() uint64 { return num.Wide(i.Op-api.XWide, e.A(), e.B()) }
	}
	return func() uint64 {
		return uint64(num.Narrow(i.Op-api.XOp, uint32(e.A()), uint32(e.B())))
	}
}

func (m *Machine) takeIn() uint32 {
	if len(m.ins) == 0 {
		return 0
	}
	next := m.ins[0]
	m.ins = m.ins[1:]
	return next
}
