package run

import (
	"math/big"
	"testing"

	"loanbook/api"
)

// source is a row of numbers that looks like chance, and is the same each time.
type source uint64

func (r *source) below(n int) int {
	*r = *r*6364136223846793005 + 1442695040888963407
	return int(uint64(*r)>>33) % n
}

func (r *source) number() uint32 {
	edges := []uint32{0, 1, 2, 1<<16 - 1, 1 << 16, 1<<31 - 1, 1 << 31, max32 - 1, max32}
	if r.below(3) > 0 {
		return edges[r.below(len(edges))]
	}
	return uint32(r.below(1<<31))*2 + uint32(r.below(2))
}

// of picks a temporary of the width, if there is one.
func (r *source) of(wide []bool, width bool) (int, bool) {
	var fit []int
	for k, w := range wide {
		if w == width {
			fit = append(fit, k)
		}
	}
	if len(fit) == 0 {
		return 0, false
	}
	return fit[r.below(len(fit))], true
}

// instruction is one that may stand in a program with these temporaries and so many instructions.
func (r *source) instruction(wide []bool, count int) api.Ins {
	ops := []int{1, 2, 3, 3, 4, 4, 5, 6, 7, 8, 9, 9, 10, 21, 22, 23, 24, 25, 26, 41, 42, 43, 44, 45}
	for {
		n0, isNarrow := r.of(wide, false)
		n1, _ := r.of(wide, false)
		n2, _ := r.of(wide, false)
		w0, isWide := r.of(wide, true)
		w1, _ := r.of(wide, true)
		w2, _ := r.of(wide, true)
		op := ops[r.below(len(ops))]
		switch {
		case op == api.XJump:
			return jump(r.below(count))
		case op == api.XHalt && r.below(3) == 0:
			return halt()
		case op == api.XMove && isWide && r.below(2) == 0:
			return take(op, w0, w1, 0)
		case op > api.XWide && isWide:
			return take(op, w0, w1, w2)
		case !isNarrow || op > api.XWide || op == api.XHalt:
			continue
		case op == api.XConst:
			return give(n0, r.number())
		case op == api.XMove:
			return take(op, n0, n1, 0)
		case op == api.XIn:
			return in(n0)
		case op == api.XOut:
			return out(n0)
		case op == api.XIf:
			return onIf(n0, r.below(count))
		case op > api.XOp:
			return take(op, n0, n1, n2)
		case isWide && op == api.XPair:
			return take(op, w0, n0, n1)
		case isWide:
			return take(op, n0, w0, 0)
		}
	}
}

func (r *source) any() (api.Prog, []uint32, int) {
	p := api.Prog{Wide: make([]bool, 1+r.below(api.MaxTemps)), Code: make([]api.Ins, 1+r.below(api.MaxCode))}
	for k := range p.Wide {
		p.Wide[k] = r.below(3) == 0
	}
	for k := range p.Code {
		p.Code[k] = r.instruction(p.Wide, len(p.Code))
	}
	ins := make([]uint32, r.below(api.MaxIns+1))
	for k := range ins {
		ins[k] = r.number()
	}
	return p, ins, r.below(120)
}

func two(power uint) *big.Int { return new(big.Int).Lsh(big.NewInt(1), power) }

// reckoned is a op b of so many bits, by numbers that have no width.
func reckoned(op int, a, b *big.Int, bits uint) *big.Int {
	v := new(big.Int)
	switch op {
	case api.OpAdd:
		v.Add(a, b)
	case api.OpSub:
		v.Sub(a, b)
	case api.OpMul:
		v.Mul(a, b)
	case api.OpAnd:
		v.And(a, b)
	case api.OpXor:
		v.Xor(a, b)
	case api.OpLess:
		if a.Cmp(b) < 0 {
			v.SetInt64(1)
		}
	}
	return v.Mod(v, two(bits))
}

// byWords is C1 to C3, read apart from the program: an instruction is done for each step that is left.
func byWords(p api.Prog, ins []uint32, steps int) api.Shown {
	var s api.Shown
	has := make([]*big.Int, len(p.Wide))
	for k := range has {
		has[k] = new(big.Int)
	}
	at, taken := 0, 0
	for range steps {
		i := p.Code[at]
		s.Steps++
		at++
		a, b := has[i.A], has[i.B]
		gives := new(big.Int)
		switch i.Op {
		case api.XConst:
			gives.SetUint64(uint64(i.N))
		case api.XMove:
			gives.Set(a)
		case api.XIn:
			if taken < len(ins) {
				gives.SetUint64(uint64(ins[taken]))
				taken++
			}
		case api.XPair:
			gives.Mul(b, two(32)).Add(gives, a)
		case api.XLow:
			gives.Mod(a, two(32))
		case api.XHigh:
			gives.Div(a, two(32))
		case api.XOut:
			s.Out = append(s.Out, uint32(a.Uint64()))
		case api.XJump:
			at = i.C
		case api.XIf:
			if a.Sign() != 0 {
				at = i.C
			}
		case api.XHalt:
			s.State = api.Halted
			return s
		default:
			if i.Op > api.XWide {
				gives = reckoned(i.Op-api.XWide, a, b, 64)
			} else {
				gives = reckoned(i.Op-api.XOp, a, b, 32)
			}
		}
		if i.Op != api.XOut && i.Op != api.XJump && i.Op != api.XIf {
			has[i.Dest] = gives
		}
		if at >= len(p.Code) {
			s.State = api.Ended
			return s
		}
	}
	return s
}

func TestAgainstTheWords(t *testing.T) {
	r := source(1)
	var states [3]int
	outs, ops := 0, map[int]int{}
	for range 20000 {
		p, ins, steps := r.any()
		want := byWords(p, ins, steps)
		expect(t, p, ins, steps, want)
		if t.Failed() {
			return
		}
		states[want.State]++
		outs += len(want.Out)
		for _, i := range p.Code {
			ops[i.Op]++
		}
	}
	if min(states[api.Runs], states[api.Halted], states[api.Ended]) < 1000 || outs < 10000 || len(ops) != 21 {
		t.Errorf("the programs tried are too much alike: %v, %d, %v", states, outs, ops)
	}
}

// TestEachCountOfSteps: a run of fewer steps is the beginning of one of more.
func TestEachCountOfSteps(t *testing.T) {
	r := source(3)
	for range 500 {
		p, ins, _ := r.any()
		for steps := range 60 {
			expect(t, p, ins, steps, byWords(p, ins, steps))
		}
		if t.Failed() {
			return
		}
	}
}
