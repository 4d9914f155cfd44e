package build

import (
	"slices"
	"testing"

	"loanbook/api"
)

// Temporaries of the programs below: n0 to n2 are narrow, w0 to w2 wide.
const (
	n0 = iota
	n1
	n2
	w0
	w1
	w2
)

func temps() []bool { return []bool{n2: false, w0: true, w1: true, w2: true} }

func prog(code ...api.Ins) api.Prog { return api.Prog{Wide: temps(), Code: code} }

func one(wide bool, code ...api.Ins) api.Prog { return api.Prog{Wide: []bool{wide}, Code: code} }

func allNarrow(count int) []bool { return make([]bool, count) }
func allWide(count int) []bool   { return slices.Repeat([]bool{true}, count) }

func TestOneInstruction(t *testing.T) {
	for _, i := range []api.Ins{
		give(n0, 0), give(n1, max32), move(n0, n1), move(n2, n2), move(w0, w1), move(w2, w2),
		in(n0), out(n0), pair(w0, n0, n1), pair(w2, n1, n1), low(n0, w0), high(n2, w2),
		jump(0), onIf(n0, 0), halt(),
	} {
		expectBuilt(t, prog(i))
	}
	for _, op := range narrowOps() {
		expectBuilt(t, prog(three(op, n0, n1, n2)))
		expectBuilt(t, prog(three(op, n0, n0, n0)))
	}
	for _, op := range wideOps() {
		expectBuilt(t, prog(three(op, w0, w1, w2)))
		expectBuilt(t, prog(three(op, w0, w0, w0)))
	}
}

func TestOneNarrow(t *testing.T) {
	for _, code := range [][]api.Ins{
		{halt()}, {in(0)}, {out(0)}, {give(0, 7)}, {move(0, 0)}, {jump(0)}, {onIf(0, 0)},
		{in(0), add(0, 0, 0), out(0), move(0, 0), out(0), halt()},
		{in(0), out(0), onIf(0, 0), out(0)},
	} {
		expectBuilt(t, one(false, code...))
	}
	for _, op := range narrowOps() {
		expectBuilt(t, one(false, in(0), three(op, 0, 0, 0), out(0)))
	}
	expectOut(t, one(false, slices.Repeat([]api.Ins{in(0), out(0)}, api.MaxCode/2)...), api.Ended, []uint32{5, max32}, append([]uint32{5, max32}, make([]uint32, 18)...))
}

func TestOneWide(t *testing.T) {
	for _, code := range [][]api.Ins{{halt()}, {move(0, 0)}, {jump(0)}, {move(0, 0), jump(0)}} {
		expectBuilt(t, one(true, code...))
	}
	for _, op := range wideOps() {
		expectBuilt(t, one(true, three(op, 0, 0, 0)))
		expectBuilt(t, one(true, slices.Repeat([]api.Ins{three(op, 0, 0, 0)}, api.MaxCode)...))
	}
}

// TestNarrowOnesAtOnce: from one to MaxTemps come in, and all are needed till they have gone out.
func TestNarrowOnesAtOnce(t *testing.T) {
	for count := 1; count <= api.MaxTemps; count++ {
		p := api.Prog{Wide: allNarrow(count)}
		var ins []uint32
		for k := range count {
			p.Code = append(p.Code, in(k))
			ins = append(ins, uint32(100+k))
		}
		want := slices.Clone(ins)
		for k := range count {
			p.Code = append(p.Code, out(k))
			if k > 0 {
				p.Code = append(p.Code, sub(k, k, k-1))
			}
		}
		if len(p.Code) < api.MaxCode {
			p.Code = append(p.Code, halt())
			expectOut(t, p, api.Halted, ins, want)
			continue
		}
		expectOut(t, p, api.Ended, ins, want)
	}
}

// TestWideOnesAtOnce: all but the first are wide, each made of what comes in, and all are needed till they are added up.
func TestWideOnesAtOnce(t *testing.T) {
	for count := 2; count <= api.MaxTemps; count++ {
		p := api.Prog{Wide: append([]bool{false}, allWide(count-1)...)}
		var ins []uint32
		sum := uint64(0)
		for k := 1; k < count; k++ {
			p.Code = append(p.Code, in(0), pair(k, 0, 0))
			ins = append(ins, 1<<31+uint32(k))
			sum += uint64(1<<31+uint32(k)) * (1<<32 + 1)
		}
		for k := 2; k < count; k++ {
			p.Code = append(p.Code, addWide(1, 1, k))
		}
		p.Code = append(p.Code, low(0, 1), out(0), high(0, 1), out(0))
		expectOut(t, p, api.Ended, ins, []uint32{uint32(sum), uint32(sum >> 32)})
	}
}

// TestAllWideOnesAtOnce: there is no narrow one, so nothing comes in or out, but all are taken ahead of being given.
func TestAllWideOnesAtOnce(t *testing.T) {
	for count := 1; count <= api.MaxTemps; count++ {
		p := api.Prog{Wide: allWide(count)}
		for k := range count {
			p.Code = append(p.Code, addWide(k, k, (k+1)%count))
		}
		for k := range count {
			p.Code = append(p.Code, move((k+5)%count, k), three(api.XWide+api.OpXor, 0, 0, k))
		}
		expectBuilt(t, p)
	}
}

// TestBothAtOnce: narrow and wide ones take turns, all are needed at once.
func TestBothAtOnce(t *testing.T) {
	for first := range 2 {
		p := api.Prog{Wide: make([]bool, api.MaxTemps)}
		for k := range p.Wide {
			p.Wide[k] = k%2 == first
		}
		narrow, wide := 1-first, first
		for k := 0; k < api.MaxTemps; k += 2 {
			p.Code = append(p.Code, in(narrow+k))
		}
		for k := 0; k < api.MaxTemps; k += 2 {
			p.Code = append(p.Code, pair(wide+k, narrow+k, narrow+(k+2)%api.MaxTemps))
		}
		for k := 0; k < api.MaxTemps; k += 2 {
			p.Code = append(p.Code, out(narrow+k), low(narrow+k, wide+k), out(narrow+k), high(narrow+k, wide+k))
		}
		for k := 0; k < 4; k += 2 {
			p.Code = append(p.Code, out(narrow+k))
		}
		ins := []uint32{11, 12, 13, 14, 15, 16}
		expectOut(t, p, api.Ended, ins, []uint32{11, 11, 12, 12, 13, 13, 14, 14, 15, 15, 16, 16, 12, 13})
	}
}

// TestTakenAheadOfBeingGiven: such a temporary is 0, along whichever way.
func TestTakenAheadOfBeingGiven(t *testing.T) {
	expectOut(t, prog(out(n0), out(n1), add(n2, n0, n1), out(n2), halt()), api.Halted, nil, []uint32{0, 0, 0})
	expectOut(t, prog(high(n0, w0), out(n0), addWide(w0, w1, w2), low(n1, w0), out(n1), halt()), api.Halted, nil, []uint32{0, 0})
	way := prog(in(n0), onIf(n0, 3), in(n1), out(n1), halt())
	expectOut(t, way, api.Halted, []uint32{0, 8}, []uint32{8})
	expectOut(t, way, api.Halted, []uint32{1, 8}, []uint32{0})
	wide := prog(in(n0), onIf(n0, 3), pair(w1, n0, n0), high(n2, w1), out(n2), in(n0), pair(w1, n0, n0), onIf(n0, 3))
	expectOut(t, wide, api.Ended, []uint32{4, 6}, []uint32{0, 6})
	expectOut(t, wide, api.Ended, []uint32{0, 6}, []uint32{0, 6})
}

func TestGivenAndNeverTaken(t *testing.T) {
	expectOut(t, prog(in(n0), in(n1), give(n2, 5), pair(w0, n0, n1), addWide(w1, w0, w0), out(n0)), api.Ended, []uint32{3, 4}, []uint32{3})
	// Even where all the others are needed, it may be in the way of none.
	for never := range api.MaxTemps {
		p := api.Prog{Wide: allNarrow(api.MaxTemps)}
		for k := range api.MaxTemps {
			p.Code = append(p.Code, in(k))
		}
		p.Code = append(p.Code, give(never, 9))
		var want []uint32
		ins := []uint32{1, 2, 3, 4, 5, 6, 7, 8, 9, 10, 11, 12}
		for k := range api.MaxTemps {
			if k != never {
				p.Code = append(p.Code, out(k))
				want = append(want, ins[k])
			}
		}
		expectOut(t, p, api.Ended, ins, want)
	}
}

func TestLoops(t *testing.T) {
	countDown := prog(in(n0), give(n1, 1), out(n0), sub(n0, n0, n1), onIf(n0, 2), halt())
	expectOut(t, countDown, api.Halted, []uint32{3}, []uint32{3, 2, 1})
	// One loop in another: 2 times 3, and all that goes on is needed around it.
	nested := api.Prog{Wide: []bool{false, false, false, false, true, true}, Code: []api.Ins{
		in(0), in(1), give(3, 1), move(2, 1),
		pair(5, 2, 0), addWide(4, 4, 5), sub(2, 2, 3), onIf(2, 4),
		sub(0, 0, 3), onIf(0, 3),
		low(2, 4), out(2), high(2, 4), out(2), out(1), halt(),
	}}
	expectOut(t, nested, api.Halted, []uint32{2, 3}, []uint32{12, 9, 3})
	expectBuilt(t, prog(jump(2), halt(), in(n0), onIf(n0, 1), out(n0), jump(2)))
	expectBuilt(t, prog(in(n0), move(n1, n0), move(n0, n2), move(n2, n1), out(n0), jump(1)))
	expectBuilt(t, prog(in(n0), pair(w0, n0, n1), move(w1, w0), move(w0, w2), move(w2, w1), low(n1, w2), out(n1), jump(2)))
}

// TestManyInALoop: what goes round is more than there are registers, and each round moves all of it on by one.
func TestManyInALoop(t *testing.T) {
	p := api.Prog{Wide: allNarrow(api.MaxTemps)}
	for k := range api.MaxTemps - 1 {
		p.Code = append(p.Code, in(k))
	}
	top, last := len(p.Code), api.MaxTemps-1
	p.Code = append(p.Code, out(0), move(last, 0))
	for k := range last {
		p.Code = append(p.Code, move(k, k+1))
	}
	p.Code = append(p.Code, onIf(0, top), halt())
	ins := []uint32{1, 2, 3, 4, 5, 6, 7, 8, 9, 10, 0}
	expectOut(t, p, api.Halted, ins, []uint32{1, 2, 3, 4, 5, 6, 7, 8, 9, 10})
}

func TestWaysThatMeet(t *testing.T) {
	both := prog(in(n0), in(n1), onIf(n0, 5), add(n2, n1, n1), jump(6), give(n2, 7), out(n2), out(n1), halt())
	expectOut(t, both, api.Halted, []uint32{0, 4}, []uint32{8, 4})
	expectOut(t, both, api.Halted, []uint32{1, 4}, []uint32{7, 4})
	wide := prog(in(n0), in(n1), pair(w0, n1, n0), onIf(n0, 6), move(w1, w0), jump(7), addWide(w1, w0, w0), low(n2, w1), out(n2), high(n2, w0), out(n2), halt())
	expectOut(t, wide, api.Halted, []uint32{0, 4}, []uint32{4, 0})
	expectOut(t, wide, api.Halted, []uint32{1, 4}, []uint32{8, 1})
	moved := prog(in(n0), in(n1), onIf(n1, 5), move(n2, n0), jump(6), move(n2, n1), out(n2), out(n0), out(n1))
	expectOut(t, moved, api.Ended, []uint32{5, 0}, []uint32{5, 5, 0})
	expectOut(t, moved, api.Ended, []uint32{5, 6}, []uint32{6, 5, 6})
}

func TestLeading(t *testing.T) {
	expectOut(t, prog(in(n0), out(n0), onIf(n0, 0)), api.Ended, []uint32{2, 1, 0, 9}, []uint32{2, 1, 0})
	expectOut(t, prog(in(n1), out(n1), onIf(n0, 2)), api.Ended, []uint32{2}, []uint32{2})
	expectOut(t, prog(in(n0), out(n0), onIf(n0, 2), out(n1)), api.Ended, []uint32{0}, []uint32{0, 0})
	expectOut(t, prog(in(n0), out(n0), onIf(n0, 2)), api.Runs, []uint32{4}, []uint32{4})
	expectOut(t, prog(onIf(n0, 0), in(n0), out(n0), onIf(n0, 1)), api.Ended, []uint32{4}, []uint32{4, 0})
	expectOut(t, prog(in(n0), out(n0), jump(2)), api.Runs, []uint32{4}, []uint32{4})
	expectOut(t, prog(jump(1), in(n0), out(n0), onIf(n0, 0)), api.Ended, []uint32{4, 5}, []uint32{4, 5, 0})
	expectBuilt(t, prog(in(n0), out(n0), jump(0)))
	expectBuilt(t, prog(jump(0)))
	expectBuilt(t, prog(onIf(n2, 0)))
}

func TestHaltInTheMiddle(t *testing.T) {
	p := prog(in(n0), in(n1), onIf(n0, 5), out(n1), halt(), in(n2), out(n2), out(n0), halt(), out(n1))
	expectOut(t, p, api.Halted, []uint32{0, 4, 5}, []uint32{4})
	expectOut(t, p, api.Halted, []uint32{1, 4, 5}, []uint32{5, 1})
}

// TestWhereNoWayLeads: what stands there has places, too, which are not asked for what they have.
func TestWhereNoWayLeads(t *testing.T) {
	expectOut(t, prog(in(n0), out(n0), halt(), addWide(w0, w1, w2), pair(w1, n1, n2), high(n0, w0), out(n0)), api.Halted, []uint32{6}, []uint32{6})
	expectOut(t, prog(in(n0), jump(4), in(n0), onIf(n1, 2), out(n0)), api.Ended, []uint32{6}, []uint32{6})
	expectOut(t, prog(jump(3), give(n0, 9), jump(1), in(n0), out(n0), halt(), move(w0, w0), jump(4)), api.Halted, []uint32{6}, []uint32{6})
}

// TestXMoveToItself: where nothing else is needed, and where all else is.
func TestXMoveToItself(t *testing.T) {
	expectOut(t, prog(in(n0), move(n0, n0), out(n0), pair(w0, n0, n0), move(w0, w0), high(n1, w0), out(n1)), api.Ended, []uint32{6}, []uint32{6, 6})
	for k := range crowdTemps() {
		expectBuilt(t, crowded(move(k, k)))
	}
}

// TestRoomForAll: where each temporary has a register, nothing is moved, and there are no slots.
func TestRoomForAll(t *testing.T) {
	p := prog(in(n0), in(n1), pair(w0, n0, n1), addWide(w1, w0, w0), low(n2, w1), out(n2), out(n0))
	for _, singles := range targets()[1:] {
		l := built(t, p, singles)
		if l.Slots != 0 {
			t.Errorf("Build(%v, %d) = %v, want no slots", p, singles, l)
		}
		for _, row := range l.Rows {
			if len(row.Before) > 0 || len(row.After) > 0 {
				t.Errorf("Build(%v, %d) = %v, want no moves", p, singles, l)
			}
		}
	}
}
