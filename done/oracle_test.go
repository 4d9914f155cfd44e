package done

import (
	"math/big"
	"testing"

	"loanbook/api"
	"loanbook/layout"
	"loanbook/run"
)

// source is a row of numbers that looks like chance, and is the same each time.
type source uint64

func (r *source) below(n int) int {
	*r = *r*6364136223846793005 + 1442695040888963407
	return int(uint64(*r)>>33) % n
}

func (r *source) number() uint32 {
	edges := []uint32{0, 1, 2, 1<<16 - 1, 1 << 16, 1<<31 - 1, 1 << 31, max32 - 1, max32}
	if r.below(3) > 0 {
		return edges[r.below(len(edges))]
	}
	return uint32(r.below(1<<31))*2 + uint32(r.below(2))
}

func (r *source) numbers() []uint32 {
	list := make([]uint32, r.below(api.MaxIns+1))
	for k := range list {
		list[k] = r.number()
	}
	return list
}

// instruction has any numbers of temporaries: whether it may stand is asked of layout.
func (r *source) instruction(temps, count int) api.Ins {
	ops := []int{1, 1, 2, 2, 3, 3, 4, 4, 4, 5, 5, 6, 7, 8, 9, 9, 10, 21, 22, 23, 24, 25, 26, 41, 42, 43, 44, 45}
	i := api.Ins{Op: ops[r.below(len(ops))]}
	dest, a, b := layout.Has(i.Op)
	if dest {
		i.Dest = r.below(temps)
	}
	if a {
		i.A = r.below(temps)
	}
	if b {
		i.B = r.below(temps)
	}
	switch i.Op {
	case api.XJump, api.XIf:
		i.C = r.below(count)
	case api.XConst:
		i.N = r.number()
	case api.XHalt:
		// Few of them, so that runs are long.
		if r.below(3) > 0 {
			return r.instruction(temps, count)
		}
	}
	return i
}

// program has at least one temporary of each width.
func (r *source) program() api.Prog {
	p := api.Prog{Wide: make([]bool, 2+r.below(api.MaxTemps-1)), Code: make([]api.Ins, 1+r.below(api.MaxCode))}
	for k := range p.Wide {
		p.Wide[k] = k == 1 || k > 1 && r.below(3) == 0
	}
	for k := range p.Code {
		p.Code[k] = api.Ins{Op: api.XHalt}
	}
	for k := range p.Code {
		p.Code[k] = r.instruction(len(p.Wide), len(p.Code))
		for !layout.May(p) {
			p.Code[k] = r.instruction(len(p.Wide), len(p.Code))
		}
	}
	return p
}

// register is one for a temporary of that width.
func (r *source) register(singles int, wide bool) api.Place {
	if wide {
		return double(r.below(singles / 2))
	}
	return single(r.below(singles))
}

func (r *source) move(singles, slots int) api.Move {
	one, kind := r.register(singles, r.below(2) == 0), r.below(4)
	if slots == 0 {
		kind %= 2
	}
	switch kind {
	case 0:
		return api.Move{To: single(r.below(singles)), Const: true, N: r.number()}
	case 1:
		return move(one, r.register(singles, one.Kind == api.KDouble))
	case 2:
		return move(one, slot(r.below(slots)))
	}
	return move(slot(r.below(slots)), one)
}

func (r *source) moves(singles, slots int) []api.Move {
	var list []api.Move
	for range max(0, r.below(12)-5) {
		list = append(list, r.move(singles, slots))
	}
	return list
}

// placed has any places and any moves: what is taken need not be what was given.
func (r *source) placed(p api.Prog, singles int) api.Placed {
	l := api.Placed{Slots: r.below(api.MaxSlots + 1)}
	for _, i := range p.Code {
		row := api.Row{Before: r.moves(singles, l.Slots)}
		dest, a, b := layout.Has(i.Op)
		if dest {
			row.Dest = r.register(singles, p.Wide[i.Dest])
		}
		if a {
			row.A = r.register(singles, p.Wide[i.A])
		}
		if b {
			row.B = r.register(singles, p.Wide[i.B])
		}
		if i.Op != api.XJump && i.Op != api.XIf && i.Op != api.XHalt {
			row.After = r.moves(singles, l.Slots)
		}
		l.Rows = append(l.Rows, row)
	}
	return l
}

func two(power uint) *big.Int { return new(big.Int).Lsh(big.NewInt(1), power) }

// world has what is in single registers and slots, as numbers that have no width; what is not there is 0.
type world map[api.Place]*big.Int

func (w world) in(l api.Place) *big.Int {
	if l.Kind == api.KDouble {
		v := new(big.Int).Mul(w.in(single(2*l.N+1)), two(32))
		return v.Add(v, w.in(single(2*l.N)))
	}
	v := new(big.Int)
	if had := w[l]; had != nil {
		v.Set(had)
	}
	return v
}

func (w world) becomes(l api.Place, v *big.Int) {
	if l.Kind != api.KDouble {
		w[l] = v
		return
	}
	upper, lower := new(big.Int).DivMod(v, two(32), new(big.Int))
	w[single(2*l.N)], w[single(2*l.N+1)] = lower, upper
}

// moved is G2, word for word.
func (w world) moved(moves []api.Move) {
	for _, m := range moves {
		switch {
		case m.Const:
			w.becomes(m.To, big.NewInt(int64(m.N)))
		case m.From.Kind == api.KSlot && m.To.Kind == api.KSingle:
			w.becomes(m.To, new(big.Int).Mod(w.in(m.From), two(32)))
		default:
			w.becomes(m.To, w.in(m.From))
		}
	}
}

// reckoned is a op b of so many bits.
func reckoned(op int, a, b *big.Int, bits uint) *big.Int {
	v := new(big.Int)
	switch op {
	case api.OpAdd:
		v.Add(a, b)
	case api.OpSub:
		v.Sub(a, b)
	case api.OpMul:
		v.Mul(a, b)
	case api.OpAnd:
		v.And(a, b)
	case api.OpXor:
		v.Xor(a, b)
	case api.OpLess:
		if a.Cmp(b) < 0 {
			v.SetInt64(1)
		}
	}
	return v.Mod(v, two(bits))
}

// gives is what C2 says of the instructions that give something, but for XIn.
func gives(i api.Ins, a, b *big.Int) *big.Int {
	switch i.Op {
	case api.XConst:
		return big.NewInt(int64(i.N))
	case api.XMove:
		return a
	case api.XPair:
		v := new(big.Int).Mul(b, two(32))
		return v.Add(v, a)
	case api.XLow:
		return new(big.Int).Mod(a, two(32))
	case api.XHigh:
		return new(big.Int).Div(a, two(32))
	}
	if i.Op > api.XWide {
		return reckoned(i.Op-api.XWide, a, b, 64)
	}
	return reckoned(i.Op-api.XOp, a, b, 32)
}

// byWords is G1, read apart from the program: an instruction is done, between its moves, for each step that is left.
func byWords(p api.Prog, l api.Placed, ins []uint32, steps int) api.Shown {
	var s api.Shown
	w := world{}
	at, taken := 0, 0
	for range steps {
		i, row := p.Code[at], l.Rows[at]
		s.Steps++
		at++
		w.moved(row.Before)
		a, b := w.in(row.A), w.in(row.B)
		switch i.Op {
		case api.XIn:
			v := new(big.Int)
			if taken < len(ins) {
				v.SetUint64(uint64(ins[taken]))
				taken++
			}
			w.becomes(row.Dest, v)
		case api.XOut:
			s.Out = append(s.Out, uint32(a.Uint64()))
		case api.XJump:
			at = i.C
		case api.XIf:
			if a.Sign() != 0 {
				at = i.C
			}
		case api.XHalt:
			s.State = api.Halted
			return s
		default:
			w.becomes(row.Dest, gives(i, a, b))
		}
		w.moved(row.After)
		if at >= len(p.Code) {
			s.State = api.Ended
			return s
		}
	}
	return s
}

func TestAgainstTheWords(t *testing.T) {
	r := source(1)
	var states [3]int
	outs, big, ops := 0, 0, map[int]int{}
	for range 10000 {
		p := r.program()
		on := target(4 + 2*r.below(7))
		l := r.placed(p, on.Singles)
		ins, steps := r.numbers(), r.below(150)
		want := byWords(p, l, ins, steps)
		expectOf(t, p, on, l, ins, steps, want)
		if t.Failed() {
			return
		}
		states[want.State]++
		outs += len(want.Out)
		for _, v := range want.Out {
			if v > 2 {
				big++
			}
		}
		for _, i := range p.Code {
			ops[i.Op]++
		}
	}
	if min(states[api.Runs], states[api.Halted], states[api.Ended]) < 1000 || outs < 10000 || big < 5000 || len(ops) != 21 {
		t.Errorf("the programs tried are too much alike: %v, %d, %d, %v", states, outs, big, ops)
	}
}

// TestEachCountOfSteps: a run of fewer steps is the beginning of one of more.
func TestEachCountOfSteps(t *testing.T) {
	r := source(3)
	for range 200 {
		p := r.program()
		l := r.placed(p, 8)
		ins := r.numbers()
		for steps := range 50 {
			expectOf(t, p, target(8), l, ins, steps, byWords(p, l, ins, steps))
		}
		if t.Failed() {
			return
		}
	}
}

// inRegisters gives each temporary a register of its own, if there are enough.
func inRegisters(p api.Prog) (api.Placed, bool) {
	at := make([]api.Place, len(p.Wide))
	next := 0
	for _, width := range []bool{true, false} {
		for k, w := range p.Wide {
			if w != width {
				continue
			}
			if at[k] = single(next); w {
				at[k] = double(next / 2)
				next++
			}
			next++
		}
	}
	var l api.Placed
	for _, i := range p.Code {
		var row api.Row
		dest, a, b := layout.Has(i.Op)
		if dest {
			row.Dest = at[i.Dest]
		}
		if a {
			row.A = at[i.A]
		}
		if b {
			row.B = at[i.B]
		}
		l.Rows = append(l.Rows, row)
	}
	return l, next <= api.MaxSingles
}

// inSlots gives each temporary a slot of its own, from which it comes to a register ahead of being taken, and to which it goes behind being given.
func inSlots(p api.Prog) api.Placed {
	of := func(temp, n int) api.Place {
		if p.Wide[temp] {
			return double(n)
		}
		return single(2 * n)
	}
	l := api.Placed{Slots: len(p.Wide)}
	for _, i := range p.Code {
		var row api.Row
		dest, a, b := layout.Has(i.Op)
		if a {
			row.A = of(i.A, 0)
			row.Before = append(row.Before, move(row.A, slot(i.A)))
		}
		if b {
			row.B = of(i.B, 1)
			row.Before = append(row.Before, move(row.B, slot(i.B)))
		}
		if dest {
			row.Dest = of(i.Dest, 0)
			row.After = append(row.After, move(slot(i.Dest), row.Dest))
		}
		l.Rows = append(l.Rows, row)
	}
	return l
}

// TestDoesWhatTheProgramDoes has places, with no moves and with many, of which it is plain that they change nothing.
func TestDoesWhatTheProgramDoes(t *testing.T) {
	r := source(9)
	apart := 0
	for range 5000 {
		p, ins, steps := r.program(), r.numbers(), r.below(300)
		want, e := run.Run(p, ins, steps)
		if e != api.OK {
			t.Fatalf("run.Run(%v) = %d", p, e)
		}
		expectOf(t, p, target(4), inSlots(p), ins, steps, want)
		if l, enough := inRegisters(p); enough {
			expectOf(t, p, target(api.MaxSingles), l, ins, steps, want)
			apart++
		}
		if t.Failed() {
			return
		}
	}
	if apart < 2000 {
		t.Errorf("too few programs had registers enough: %d", apart)
	}
}
