package run

import (
	"slices"
	"testing"

	"loanbook/api"
)

// TestMachineHasItsOwnIns: it goes on behind the call that they were handed to.
func TestMachineHasItsOwnIns(t *testing.T) {
	ins := []uint32{5, 6, 7}
	m := NewMachine(ins[:2])
	ins[0], ins[1] = 8, 9
	var took []uint64
	deed := m.Deed(api.Ins{Op: api.XIn}, Ends{Dest: func(v uint64) { took = append(took, v) }})
	m.GoOn([]func(){deed, deed, deed}, 9)
	if !slices.Equal(took, []uint64{5, 6, 0}) || m.State != api.Ended || m.Steps != 3 || !slices.Equal(ins, []uint32{8, 9, 7}) {
		t.Errorf("took %v, shows %v, ins are %v", took, m.Shown, ins)
	}
}

// TestMachineAsksItsEnds: an instruction takes and gives at its own ends, wherever its temporaries' numbers lead.
func TestMachineAsksItsEnds(t *testing.T) {
	m := NewMachine(nil)
	var given []uint64
	e := Ends{
		A:    func() uint64 { return 10 },
		B:    func() uint64 { return 3 },
		Dest: func(v uint64) { given = append(given, v) },
	}
	var deeds []func()
	for _, op := range []int{api.XPair, api.XMove, api.XOp + api.OpSub, api.XWide + api.OpSub, api.XOut, api.XIf} {
		deeds = append(deeds, m.Deed(api.Ins{Op: op, Dest: -7, A: 99, B: -1, C: 6}, e))
	}
	m.GoOn(deeds, len(deeds))
	if !slices.Equal(given, []uint64{3<<32 + 10, 10, 7, 7}) || !slices.Equal(m.Out, []uint32{10}) || m.State != api.Ended || m.Steps != 6 {
		t.Errorf("gave %v, shows %v", given, m.Shown)
	}
}
