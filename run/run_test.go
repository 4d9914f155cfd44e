package run

import (
	"math"
	"reflect"
	"slices"
	"testing"

	"loanbook/api"
)

const (
	max32 = math.MaxUint32
	max64 = math.MaxUint64
)

// Temporaries of the programs below.
const (
	n0 = 0
	n1 = 1
	n2 = 2
	w0 = 3
	w1 = 4
	w2 = 5
)

func temps() []bool { return []bool{false, false, false, true, true, true} }

func prog(code ...api.Ins) api.Prog { return api.Prog{Wide: temps(), Code: code} }

func in(dest int) api.Ins             { return api.Ins{Op: api.XIn, Dest: dest} }
func out(a int) api.Ins               { return api.Ins{Op: api.XOut, A: a} }
func give(dest int, n uint32) api.Ins { return api.Ins{Op: api.XConst, Dest: dest, N: n} }
func jump(c int) api.Ins              { return api.Ins{Op: api.XJump, C: c} }
func onIf(a, c int) api.Ins           { return api.Ins{Op: api.XIf, A: a, C: c} }
func halt() api.Ins                   { return api.Ins{Op: api.XHalt} }

func take(op, dest, a, b int) api.Ins { return api.Ins{Op: op, Dest: dest, A: a, B: b} }

// giveWide gives a wide temporary a number by way of n0 and n1.
func giveWide(dest int, v uint64) []api.Ins {
	return []api.Ins{give(n0, uint32(v%(1<<32))), give(n1, uint32(v/(1<<32))), take(api.XPair, dest, n0, n1)}
}

// outWide brings a wide temporary out, the lower half first, by way of n2.
func outWide(a int) []api.Ins {
	return []api.Ins{take(api.XLow, n2, a, 0), out(n2), take(api.XHigh, n2, a, 0), out(n2)}
}

func halves(v uint64) []uint32 { return []uint32{uint32(v % (1 << 32)), uint32(v / (1 << 32))} }

func same(a, b api.Shown) bool {
	return a.State == b.State && a.Steps == b.Steps && slices.Equal(a.Out, b.Out)
}

func expect(t *testing.T, p api.Prog, ins []uint32, steps int, want api.Shown) {
	t.Helper()
	got, e := Run(p, ins, steps)
	if e != api.OK || !same(got, want) {
		t.Errorf("Run(%v, %v, %d) = %v, %d, want %v", p, ins, steps, got, e, want)
	}
}

// expectOut expects a program to come behind its last instruction, each done once.
func expectOut(t *testing.T, p api.Prog, ins []uint32, out ...uint32) {
	t.Helper()
	expect(t, p, ins, api.MaxSteps, api.Shown{State: api.Ended, Out: out, Steps: len(p.Code)})
}

func expectWrong(t *testing.T, p api.Prog, ins []uint32, steps int, want api.Errno) {
	t.Helper()
	got, e := Run(p, ins, steps)
	if e != want || got.State != 0 || got.Steps != 0 || len(got.Out) != 0 {
		t.Errorf("Run(%v, %d ins, %d) = %v, %d, want nothing, %d", p, len(ins), steps, got, e, want)
	}
}

func TestConst(t *testing.T) {
	for _, n := range []uint32{0, 1, 7, 1 << 31, max32} {
		expectOut(t, prog(give(n1, 5), give(n1, n), out(n1), out(n0)), nil, n, 0)
	}
}

func TestMove(t *testing.T) {
	for _, n := range []uint32{0, 1, 1 << 31, max32} {
		expectOut(t, prog(give(n0, n), give(n1, 5), take(api.XMove, n1, n0, 0), out(n1), out(n0)), nil, n, n)
	}
	for _, v := range []uint64{0, 1, max32, 1 << 32, 1 << 63, max64 - 1, max64} {
		code := append(giveWide(w0, 5<<32+5), giveWide(w1, v)...)
		code = append(code, take(api.XMove, w0, w1, 0))
		code = append(code, outWide(w0)...)
		code = append(code, outWide(w1)...)
		expectOut(t, prog(code...), nil, append(halves(v), halves(v)...)...)
	}
}

func TestMoveTakesAsItIsThen(t *testing.T) {
	expectOut(t, prog(give(n0, 1), take(api.XMove, n1, n0, 0), give(n0, 2), out(n1), out(n0)), nil, 1, 2)
}

func TestIn(t *testing.T) {
	expectOut(t, prog(in(n1), in(n0), out(n0), out(n1)), []uint32{0, max32, 3}, max32, 0)
	expectOut(t, prog(in(n0), out(n0), in(n0), out(n0)), []uint32{max32, 1 << 31}, max32, 1<<31)
}

func TestInsRunOut(t *testing.T) {
	expectOut(t, prog(in(n0), out(n0)), nil, 0)
	expectOut(t, prog(in(n0), out(n0)), []uint32{}, 0)
	expectOut(t, prog(give(n0, 5), in(n0), out(n0)), nil, 0)
	expectOut(t, prog(in(n0), out(n0), in(n0), out(n0), in(n0), out(n0)), []uint32{9}, 9, 0, 0)
	// Of XIn alone something is taken.
	expectOut(t, prog(out(n0), give(n0, 3), out(n0), in(n0), out(n0)), []uint32{8, 9}, 0, 3, 8)
}

func TestAllInsAreTaken(t *testing.T) {
	ins := make([]uint32, api.MaxIns)
	for k := range ins {
		ins[k] = uint32(max32 - k)
	}
	p := prog(in(n0), out(n0), jump(0))
	want := append(slices.Clone(ins), 0, 0)
	expect(t, p, ins, 3*len(want), api.Shown{State: api.Runs, Out: want, Steps: 3 * len(want)})
}

func TestOut(t *testing.T) {
	expectOut(t, prog(in(n0), in(n1), out(n1), out(n0), out(n1), out(n1)), []uint32{max32, 7}, 7, max32, 7, 7)
}

func TestPairLowHigh(t *testing.T) {
	for _, c := range [][2]uint32{{0, 0}, {1, 0}, {0, 1}, {1, 2}, {max32, 0}, {0, max32}, {max32, max32}, {1 << 31, 1}, {1, 1 << 31}, {max32, 1}, {1, max32}} {
		pair := []api.Ins{in(n0), in(n1), take(api.XPair, w1, n0, n1)}
		expectOut(t, prog(append(pair, take(api.XLow, n2, w1, 0), out(n2), out(n0), out(n1))...), c[:], c[0], c[0], c[1])
		expectOut(t, prog(append(pair, take(api.XHigh, n2, w1, 0), out(n2), out(n0), out(n1))...), c[:], c[1], c[0], c[1])
		both := prog(append([]api.Ins{in(n0), take(api.XPair, w1, n0, n0)}, outWide(w1)...)...)
		expectOut(t, both, c[:], c[0], c[0])
	}
}

// TestLowLeavesNothingAboveIt asks for bits above the 32 as with narrow ops below.
func TestLowLeavesNothingAboveIt(t *testing.T) {
	for _, v := range []uint64{5 << 32, max64 - max32, 1 << 63} {
		low := append(giveWide(w0, v), give(n1, 0), take(api.XLow, n2, w0, 0))
		paired := slices.Concat(low, []api.Ins{take(api.XPair, w1, n2, n1)}, outWide(w1))
		expectOut(t, prog(paired...), nil, 0, 0)
		expectOut(t, prog(append(low, onIf(n2, 0), out(n2))...), nil, 0)
	}
}

func TestHalvesLeaveTheWideOne(t *testing.T) {
	code := append(giveWide(w0, 3<<32+4), take(api.XLow, n0, w0, 0), take(api.XHigh, n1, w0, 0))
	expectOut(t, prog(append(code, outWide(w0)...)...), nil, 4, 3)
}

func TestNarrowOps(t *testing.T) {
	for _, c := range []struct {
		op         int
		a, b, want uint32
	}{
		{api.OpAdd, 2, 3, 5},
		{api.OpAdd, 0, 0, 0},
		{api.OpAdd, max32, 1, 0},
		{api.OpAdd, max32, max32, max32 - 1},
		{api.OpSub, 7, 3, 4},
		{api.OpSub, 0, 1, max32},
		{api.OpSub, 0, max32, 1},
		{api.OpMul, 6, 7, 42},
		{api.OpMul, 1 << 16, 1 << 16, 0},
		{api.OpMul, max32, max32, 1},
		{api.OpAnd, 12, 10, 8},
		{api.OpAnd, max32, 0, 0},
		{api.OpAnd, max32, max32, max32},
		{api.OpXor, 12, 10, 6},
		{api.OpXor, max32, max32, 0},
		{api.OpXor, max32, 0, max32},
		{api.OpLess, 1, 2, 1},
		{api.OpLess, 2, 1, 0},
		{api.OpLess, 2, 2, 0},
		{api.OpLess, 0, max32, 1},
		{api.OpLess, max32, 0, 0},
		{api.OpLess, 1<<31 - 1, 1 << 31, 1},
	} {
		code := []api.Ins{in(n0), in(n1), give(n2, 77), take(api.XOp+c.op, n2, n0, n1), out(n2), out(n0), out(n1)}
		expectOut(t, prog(code...), []uint32{c.a, c.b}, c.want, c.a, c.b)
	}
}

// TestNarrowOpsLeaveNothingAboveThem asks in the ways that would tell bits above the 32: the upper half of a pair, and whether it is 0.
func TestNarrowOpsLeaveNothingAboveThem(t *testing.T) {
	for _, c := range []struct {
		op         int
		a, b, want uint32
	}{{api.OpAdd, max32, 1, 0}, {api.OpAdd, max32, 2, 1}, {api.OpSub, 0, 1, max32}, {api.OpMul, 1 << 31, 2, 0}, {api.OpMul, max32, max32, 1}} {
		reckoned := []api.Ins{in(n0), in(n1), take(api.XOp+c.op, n2, n0, n1)}
		paired := append(reckoned, give(n0, 0), take(api.XPair, w0, n2, n0))
		expectOut(t, prog(append(paired, outWide(w0)...)...), []uint32{c.a, c.b}, c.want, 0)
		asked := append(reckoned, onIf(n2, 5), out(n0), halt())
		want := api.Shown{State: api.Halted, Steps: 5}
		if c.want == 0 {
			want = api.Shown{State: api.Halted, Out: []uint32{c.a}, Steps: 6}
		}
		expect(t, prog(asked...), []uint32{c.a, c.b}, 9, want)
	}
}

func TestWideOps(t *testing.T) {
	for _, c := range []struct {
		op         int
		a, b, want uint64
	}{
		{api.OpAdd, 2, 3, 5},
		{api.OpAdd, 0, 0, 0},
		{api.OpAdd, max32, 1, 1 << 32},
		{api.OpAdd, max64, 1, 0},
		{api.OpAdd, max64, max64, max64 - 1},
		{api.OpSub, 7, 3, 4},
		{api.OpSub, 1 << 32, 1, max32},
		{api.OpSub, 0, 1, max64},
		{api.OpSub, 0, max64, 1},
		{api.OpMul, 6, 7, 42},
		{api.OpMul, 1 << 16, 1 << 16, 1 << 32},
		{api.OpMul, max32, max32, max64 - 2*max32},
		{api.OpMul, 1 << 32, 1 << 32, 0},
		{api.OpMul, max64, max64, 1},
		{api.OpAnd, 12<<32 + 10, 10<<32 + 12, 8<<32 + 8},
		{api.OpAnd, max64, 0, 0},
		{api.OpAnd, max64, max64, max64},
		{api.OpXor, 12<<32 + 10, 10<<32 + 12, 6<<32 + 6},
		{api.OpXor, max64, max64, 0},
		{api.OpXor, max64, 0, max64},
	} {
		code := append(giveWide(w0, c.a), giveWide(w1, c.b)...)
		code = append(code, giveWide(w2, 77<<32+77)...)
		code = append(code, take(api.XWide+c.op, w2, w0, w1))
		for _, w := range []int{w2, w0, w1} {
			code = append(code, outWide(w)...)
		}
		want := slices.Concat(halves(c.want), halves(c.a), halves(c.b))
		expectOut(t, prog(code...), nil, want...)
	}
}

func TestTakenAheadOfBeingGiven(t *testing.T) {
	expectOut(t, prog(out(n0), out(n1), out(n2)), []uint32{8}, 0, 0, 0)
	expectOut(t, prog(outWide(w1)...), []uint32{8}, 0, 0)
	expectOut(t, prog(take(api.XOp+api.OpSub, n0, n1, n2), out(n0)), nil, 0)
	expectOut(t, prog(take(api.XMove, n0, n1, 0), out(n0)), nil, 0)
	expectOut(t, prog(append([]api.Ins{take(api.XWide+api.OpXor, w0, w1, w2)}, outWide(w0)...)...), nil, 0, 0)
	expectOut(t, prog(append([]api.Ins{take(api.XPair, w0, n0, n1)}, outWide(w0)...)...), nil, 0, 0)
	expectOut(t, prog(take(api.XHigh, n0, w0, 0), out(n0), onIf(n1, 0)), nil, 0)
}

func TestTakenAndGivenByOneInstruction(t *testing.T) {
	expectOut(t, prog(in(n0), take(api.XMove, n0, n0, 0), out(n0)), []uint32{6}, 6)
	for _, c := range []struct {
		dest, a, b int
		want       uint32
	}{{n0, n0, n1, 6}, {n1, n0, n1, 6}, {n0, n1, n0, max32 - 5}, {n0, n0, n0, 0}, {n2, n0, n0, 0}} {
		code := []api.Ins{in(n0), in(n1), take(api.XOp+api.OpSub, c.dest, c.a, c.b), out(c.dest)}
		expectOut(t, prog(code...), []uint32{10, 4}, c.want)
	}
	for _, c := range []struct {
		dest, a, b int
		want       uint64
	}{{w0, w0, w1, 6 << 32}, {w1, w0, w1, 6 << 32}, {w0, w1, w0, max64 - 6<<32 + 1}, {w0, w0, w0, 0}, {w0, w1, w1, 0}} {
		code := append(giveWide(w0, 10<<32), giveWide(w1, 4<<32)...)
		code = append(code, take(api.XWide+api.OpSub, c.dest, c.a, c.b))
		expectOut(t, prog(append(code, outWide(c.dest)...)...), nil, halves(c.want)...)
	}
	code := append(giveWide(w0, 3<<32+4), take(api.XMove, w0, w0, 0))
	expectOut(t, prog(append(code, outWide(w0)...)...), nil, 4, 3)
}

// TestTempsAreApart gives each of as many temporaries as there may be a number of its own.
func TestTempsAreApart(t *testing.T) {
	p := api.Prog{Wide: make([]bool, api.MaxTemps)}
	var want []uint32
	for k := range p.Wide {
		p.Code = append(p.Code, give(k, uint32(max32-k)))
		want = append(want, uint32(max32-k))
	}
	for k := range p.Wide {
		p.Code = append(p.Code, out(k))
	}
	expectOut(t, p, nil, want...)
	for k := range p.Wide {
		p.Wide[k] = k%2 == 1
	}
	p.Code = nil
	want = nil
	for k := 1; k < len(p.Wide); k += 2 {
		p.Code = append(p.Code, give(0, uint32(k)), give(2, uint32(max32-k)), take(api.XPair, k, 0, 2))
		want = append(want, uint32(max32-k))
	}
	for k := 1; k < len(p.Wide); k += 2 {
		p.Code = append(p.Code, take(api.XHigh, 0, k, 0), out(0))
	}
	expectOut(t, p, nil, want...)
}

// TestWhatGivesNothing asks for n0, as its number is also the Dest of what has none.
func TestWhatGivesNothing(t *testing.T) {
	expectOut(t, prog(give(n0, 5), give(n1, 6), out(n1), out(n0), out(n1)), nil, 6, 5, 6)
	expectOut(t, prog(give(n0, 5), give(n1, 6), jump(3), out(n0), out(n1)), nil, 5, 6)
	expectOut(t, prog(give(n0, 5), give(n1, 6), onIf(n1, 3), out(n0), out(n1)), nil, 5, 6)
	expectOut(t, prog(give(n0, 5), give(n1, 0), onIf(n1, 0), out(n0), out(n1)), nil, 5, 0)
}

func TestJump(t *testing.T) {
	ahead := prog(give(n0, 1), jump(3), out(n0), out(n1), halt())
	expect(t, ahead, nil, 9, api.Shown{State: api.Halted, Out: []uint32{0}, Steps: 4})
	back := prog(jump(3), out(n0), halt(), give(n0, 8), jump(1))
	expect(t, back, nil, 9, api.Shown{State: api.Halted, Out: []uint32{8}, Steps: 5})
	toFirst := prog(in(n0), out(n0), jump(0))
	expect(t, toFirst, []uint32{4, 5}, 5, api.Shown{State: api.Runs, Out: []uint32{4, 5}, Steps: 5})
	toLast := prog(jump(2), out(n0), out(n1))
	expect(t, toLast, nil, 9, api.Shown{State: api.Ended, Out: []uint32{0}, Steps: 2})
	toNext := prog(jump(1), out(n0))
	expect(t, toNext, nil, 9, api.Shown{State: api.Ended, Out: []uint32{0}, Steps: 2})
}

func TestJumpToItself(t *testing.T) {
	for _, steps := range []int{0, 1, 2, 100, api.MaxSteps} {
		expect(t, prog(jump(0)), nil, steps, api.Shown{State: api.Runs, Steps: steps})
		p := prog(give(n0, 3), out(n0), jump(2), out(n0))
		if steps > 2 {
			expect(t, p, nil, steps, api.Shown{State: api.Runs, Out: []uint32{3}, Steps: steps})
		}
		toItself := prog(give(n0, 3), onIf(n0, 1))
		expect(t, toItself, nil, steps, api.Shown{State: api.Runs, Steps: steps})
	}
}

func TestIfBothWays(t *testing.T) {
	p := prog(in(n1), onIf(n1, 4), give(n0, 1), out(n0), out(n1))
	expect(t, p, []uint32{0}, 9, api.Shown{State: api.Ended, Out: []uint32{1, 0}, Steps: 5})
	for _, n := range []uint32{1, 2, 1 << 16, 1 << 31, max32} {
		expect(t, p, []uint32{n}, 9, api.Shown{State: api.Ended, Out: []uint32{n}, Steps: 3})
	}
	// A tells, whatever is in the others.
	for _, n := range []uint32{0, 1} {
		others := prog(give(n0, 1-n), give(n2, 1-n), in(n1), onIf(n1, 5), out(n0), halt())
		want := api.Shown{State: api.Halted, Steps: 5}
		if n == 0 {
			want = api.Shown{State: api.Halted, Out: []uint32{1}, Steps: 6}
		}
		expect(t, others, []uint32{n}, 9, want)
	}
	back := prog(in(n0), out(n0), onIf(n0, 0), halt())
	expect(t, back, []uint32{3, 2, 0, 1}, 99, api.Shown{State: api.Halted, Out: []uint32{3, 2, 0}, Steps: 10})
}

func TestIfAsTheLastOne(t *testing.T) {
	p := prog(out(n0), in(n0), onIf(n0, 0))
	expect(t, p, nil, 9, api.Shown{State: api.Ended, Out: []uint32{0}, Steps: 3})
	expect(t, p, []uint32{7}, 9, api.Shown{State: api.Ended, Out: []uint32{0, 7}, Steps: 6})
}

func TestHalted(t *testing.T) {
	expect(t, prog(halt()), nil, 0, api.Shown{State: api.Runs})
	expect(t, prog(halt()), nil, 1, api.Shown{State: api.Halted, Steps: 1})
	expect(t, prog(halt()), nil, 2, api.Shown{State: api.Halted, Steps: 1})
	p := prog(out(n0), halt(), out(n0))
	expect(t, p, nil, 1, api.Shown{State: api.Runs, Out: []uint32{0}, Steps: 1})
	expect(t, p, nil, 2, api.Shown{State: api.Halted, Out: []uint32{0}, Steps: 2})
	expect(t, p, nil, 3, api.Shown{State: api.Halted, Out: []uint32{0}, Steps: 2})
	expect(t, p, nil, api.MaxSteps, api.Shown{State: api.Halted, Out: []uint32{0}, Steps: 2})
}

// TestEnded has runs with just as many steps as they need: to be Ended is none.
func TestEnded(t *testing.T) {
	expect(t, prog(out(n0)), nil, 0, api.Shown{State: api.Runs})
	expect(t, prog(out(n0)), nil, 1, api.Shown{State: api.Ended, Out: []uint32{0}, Steps: 1})
	p := prog(give(n0, 6), out(n0), out(n1))
	expect(t, p, nil, 0, api.Shown{State: api.Runs})
	expect(t, p, nil, 1, api.Shown{State: api.Runs, Steps: 1})
	expect(t, p, nil, 2, api.Shown{State: api.Runs, Out: []uint32{6}, Steps: 2})
	for _, steps := range []int{3, 4, api.MaxSteps} {
		expect(t, p, nil, steps, api.Shown{State: api.Ended, Out: []uint32{6, 0}, Steps: 3})
	}
}

func TestLongestCode(t *testing.T) {
	code := make([]api.Ins, api.MaxCode)
	var want []uint32
	for k := range code {
		code[k] = out(n0)
		want = append(want, 0)
	}
	expectOut(t, prog(code...), nil, want...)
	expect(t, prog(code...), nil, api.MaxCode, api.Shown{State: api.Ended, Out: want, Steps: api.MaxCode})
	expect(t, prog(code...), nil, api.MaxCode-1, api.Shown{State: api.Runs, Out: want[1:], Steps: api.MaxCode - 1})
	code[api.MaxCode-1] = halt()
	code[0] = jump(api.MaxCode - 1)
	expect(t, prog(code...), nil, 9, api.Shown{State: api.Halted, Steps: 2})
}

func TestMostSteps(t *testing.T) {
	want := api.Shown{State: api.Runs, Steps: api.MaxSteps}
	for k := range api.MaxSteps / 3 {
		want.Out = append(want.Out, uint32(k))
	}
	p := prog(give(n1, 1), jump(2), out(n0), take(api.XOp+api.OpAdd, n0, n0, n1), jump(2))
	expect(t, p, nil, api.MaxSteps, want)
}

// TestHaltInTheVeryLastStep counts down so that the halt is step MaxSteps.
func TestHaltInTheVeryLastStep(t *testing.T) {
	rounds := (api.MaxSteps - 4) / 2
	code := []api.Ins{give(n0, uint32(rounds)), give(n1, 1), jump(3), take(api.XOp+api.OpSub, n0, n0, n1), onIf(n0, 3), halt()}
	expect(t, prog(code...), nil, api.MaxSteps, api.Shown{State: api.Halted, Steps: api.MaxSteps})
	expect(t, prog(code...), nil, api.MaxSteps-1, api.Shown{State: api.Runs, Steps: api.MaxSteps - 1})
	code[5] = give(n0, 0)
	expect(t, prog(code...), nil, api.MaxSteps, api.Shown{State: api.Ended, Steps: api.MaxSteps})
}

// bad has programs that may not be, each by one thing, and each a run if that were not asked.
func bad() []api.Prog {
	return []api.Prog{
		{},
		{Wide: temps()},
		{Code: []api.Ins{halt()}},
		{Wide: make([]bool, api.MaxTemps+1), Code: []api.Ins{halt()}},
		{Wide: temps(), Code: make([]api.Ins, api.MaxCode+1)},
		prog(slices.Repeat([]api.Ins{halt()}, api.MaxCode+1)...),
		prog(halt(), api.Ins{Op: 0}),
		prog(halt(), api.Ins{Op: api.XOp}),
		prog(halt(), take(api.XWide+api.OpLess, w0, w0, w0)),
		prog(out(w0)),
		prog(in(w0)),
		prog(in(6)),
		prog(in(-1)),
		prog(take(api.XMove, w0, n0, 0)),
		prog(take(api.XPair, n0, n0, n1)),
		prog(jump(1)),
		prog(jump(-1)),
		prog(onIf(n0, math.MaxInt)),
		prog(api.Ins{Op: api.XHalt, N: 1}),
		prog(api.Ins{Op: api.XOut, Dest: math.MinInt}),
	}
}

func TestEachThingWrongAlone(t *testing.T) {
	for _, p := range bad() {
		expectWrong(t, p, nil, 1, api.ErrForm)
		expectWrong(t, p, make([]uint32, api.MaxIns), api.MaxSteps, api.ErrForm)
	}
	p := prog(in(n0), out(n0), halt())
	for _, count := range []int{api.MaxIns + 1, api.MaxIns + 2, 1000} {
		expectWrong(t, p, make([]uint32, count), 9, api.ErrSize)
	}
	for _, steps := range []int{-1, -2, math.MinInt, api.MaxSteps + 1, api.MaxSteps + 2, 1 << 32, math.MaxInt} {
		expectWrong(t, p, []uint32{7}, steps, api.ErrRange)
	}
}

func TestSeveralThingsWrong(t *testing.T) {
	many := make([]uint32, api.MaxIns+1)
	for _, steps := range []int{-1, api.MaxSteps + 1} {
		for _, p := range bad() {
			expectWrong(t, p, many, 9, api.ErrForm)
			expectWrong(t, p, nil, steps, api.ErrForm)
			expectWrong(t, p, many, steps, api.ErrForm)
		}
		expectWrong(t, prog(halt()), many, steps, api.ErrSize)
	}
}

func TestAtTheLimits(t *testing.T) {
	p := prog(in(n0), out(n0), halt())
	ins := make([]uint32, api.MaxIns)
	ins[0] = 7
	for _, count := range []int{1, api.MaxIns - 1, api.MaxIns} {
		for _, steps := range []int{3, api.MaxSteps - 1, api.MaxSteps} {
			expect(t, p, ins[:count], steps, api.Shown{State: api.Halted, Out: []uint32{7}, Steps: 3})
		}
		expect(t, p, ins[:count], 0, api.Shown{State: api.Runs})
	}
	expect(t, p, make([]uint32, api.MaxIns, 2*api.MaxIns), 0, api.Shown{State: api.Runs})
}

func TestNothingIsChanged(t *testing.T) {
	r := source(5)
	for range 300 {
		p, ins, steps := r.any()
		wide := append(slices.Clone(p.Wide), true, false)
		code := append(slices.Clone(p.Code), out(n0), api.Ins{Op: -5, N: 9})
		more := append(slices.Clone(ins), 1, 2, 3)
		wasWide, wasCode, wasMore := slices.Clone(wide), slices.Clone(code), slices.Clone(more)
		want, _ := Run(p, ins, steps)
		behind := api.Prog{Wide: wide[:len(p.Wide)], Code: code[:len(p.Code)]}
		expect(t, behind, more[:len(ins)], steps, want)
		if !reflect.DeepEqual(wide, wasWide) || !reflect.DeepEqual(code, wasCode) || !reflect.DeepEqual(more, wasMore) {
			t.Fatalf("Run changed what was handed in, or what lies behind it: %v, %v, %v", wide, code, more)
		}
	}
}

func TestNothingBehindInsIsTaken(t *testing.T) {
	expectOut(t, prog(in(n0), out(n0), in(n0), out(n0)), []uint32{3, 4, 5}[:1], 3, 0)
	expectOut(t, prog(in(n0), out(n0)), []uint32{3, 4, 5}[:0], 0)
}

func TestWhatComesOutIsNew(t *testing.T) {
	p := prog(in(n0), out(n0), jump(0))
	ins := []uint32{1, 2, 3, 4}
	first, _ := Run(p, ins, 12)
	second, _ := Run(p, ins, 12)
	for k := range ins {
		ins[k] = 9
	}
	p.Code[1] = halt()
	for _, s := range []api.Shown{first, second} {
		if !slices.Equal(s.Out, []uint32{1, 2, 3, 4}) {
			t.Errorf("what came out changed with what was handed in: %v", s)
		}
	}
	for k := range first.Out {
		first.Out[k] = 8
	}
	if !slices.Equal(second.Out, []uint32{1, 2, 3, 4}) || !slices.Equal(ins, []uint32{9, 9, 9, 9}) {
		t.Errorf("what came out shares memory: %v, %v", second, ins)
	}
}
