package done

import (
	"slices"
	"testing"

	"loanbook/api"
)

const max32 = 1<<32 - 1

// The temporaries of the programs of lines: a program in its places tells no two of one width apart.
const (
	narrow = 0
	wide   = 1
)

// line is an instruction and its row.
type line struct {
	api.Ins
	api.Row
}

func single(n int) api.Place { return api.Place{Kind: api.KSingle, N: n} }
func double(n int) api.Place { return api.Place{Kind: api.KDouble, N: n} }
func slot(n int) api.Place   { return api.Place{Kind: api.KSlot, N: n} }
func empty() api.Place       { return api.Place{} }

func temp(l api.Place) int {
	if l.Kind == api.KDouble {
		return wide
	}
	return narrow
}

func do(op int, dest, a, b api.Place) line {
	return line{api.Ins{Op: op, Dest: temp(dest), A: temp(a), B: temp(b)}, api.Row{Dest: dest, A: a, B: b}}
}

func in(dest int) line   { return do(api.XIn, single(dest), empty(), empty()) }
func out(a int) line     { return do(api.XOut, empty(), single(a), empty()) }
func halt() line         { return do(api.XHalt, empty(), empty(), empty()) }
func onIf(a, c int) line { return leading(do(api.XIf, empty(), single(a), empty()), c) }
func jump(c int) line    { return leading(do(api.XJump, empty(), empty(), empty()), c) }

func leading(l line, c int) line {
	l.C = c
	return l
}

func give(dest int, n uint32) line {
	l := do(api.XConst, single(dest), empty(), empty())
	l.N = n
	return l
}

// idle changes nothing but by its moves.
func idle() line { return do(api.XMove, single(0), single(0), empty()) }

func (l line) before(moves ...api.Move) line {
	l.Before = moves
	return l
}

func (l line) after(moves ...api.Move) line {
	l.After = moves
	return l
}

func move(to, from api.Place) api.Move   { return api.Move{To: to, From: from} }
func constant(to int, n uint32) api.Move { return api.Move{To: single(to), Const: true, N: n} }
func target(singles int) api.Target      { return api.Target{Singles: singles} }
func same(a, b api.Shown) bool {
	return a.State == b.State && a.Steps == b.Steps && slices.Equal(a.Out, b.Out)
}

// laid has as many slots as there may be.
func laid(lines ...line) (api.Prog, api.Placed) {
	p := api.Prog{Wide: []bool{narrow: false, wide: true}}
	l := api.Placed{Slots: api.MaxSlots}
	for _, one := range lines {
		p.Code = append(p.Code, one.Ins)
		l.Rows = append(l.Rows, one.Row)
	}
	return p, l
}

// expect runs the lines on the greatest target.
func expect(t *testing.T, ins []uint32, steps int, want api.Shown, lines ...line) {
	t.Helper()
	p, l := laid(lines...)
	expectOf(t, p, target(api.MaxSingles), l, ins, steps, want)
}

func expectOf(t *testing.T, p api.Prog, on api.Target, l api.Placed, ins []uint32, steps int, want api.Shown) {
	t.Helper()
	got, e := Run(p, on, l, ins, steps)
	if e != api.OK || !same(got, want) {
		t.Errorf("Run(%v, %v, %v, %v, %d) = %v, %d, want %v", p, on, l, ins, steps, got, e, want)
	}
}

func expectWrong(t *testing.T, p api.Prog, on api.Target, l api.Placed, ins []uint32, steps int, want api.Errno) {
	t.Helper()
	got, e := Run(p, on, l, ins, steps)
	if e != want || got.State != 0 || got.Steps != 0 || len(got.Out) != 0 {
		t.Errorf("Run(%v, %v, %v, %d ins, %d) = %v, %d, want nothing, %d", p, on, l, len(ins), steps, got, e, want)
	}
}

// content is what is in each single register of a target, and in each slot.
type content struct {
	singles []uint32
	slots   []uint64
}

// distinct has a number of its own everywhere, each with bits high and low.
func distinct(singles int) content {
	c := content{make([]uint32, singles), make([]uint64, api.MaxSlots)}
	for k := range c.singles {
		c.singles[k] = 0xC0000001 + uint32(k)*0x01010102
	}
	for k := range c.slots {
		c.slots[k] = 0xD000000000000003 + uint64(k)*0x0101010201010104
	}
	return c
}

func (c content) clone() content { return content{slices.Clone(c.singles), slices.Clone(c.slots)} }

// with is the content with another number in a place.
func (c content) with(l api.Place, v uint64) content {
	c = c.clone()
	switch l.Kind {
	case api.KSingle:
		c.singles[l.N] = uint32(v % (1 << 32))
	case api.KDouble:
		c.singles[2*l.N] = uint32(v % (1 << 32))
		c.singles[2*l.N+1] = uint32(v / (1 << 32))
	case api.KSlot:
		c.slots[l.N] = v
	}
	return c
}

func (c content) of(l api.Place) uint64 {
	switch l.Kind {
	case api.KSingle:
		return uint64(c.singles[l.N])
	case api.KDouble:
		return uint64(c.singles[2*l.N+1])*(1<<32) + uint64(c.singles[2*l.N])
	}
	return c.slots[l.N]
}

// fill gives all places their numbers, by moves alone, so that few lines do it.
func (c content) fill() []line {
	var moves []api.Move
	for k, v := range c.slots {
		moves = append(moves, constant(2, uint32(v%(1<<32))), constant(3, uint32(v/(1<<32))), move(slot(k), double(1)))
	}
	for k, v := range c.singles {
		moves = append(moves, constant(k, v))
	}
	var lines []line
	for part := range slices.Chunk(moves, 2*api.MaxMoves) {
		ahead := min(len(part), api.MaxMoves)
		lines = append(lines, idle().before(part[:ahead]...).after(part[ahead:]...))
	}
	return lines
}

func (c content) tellSingles() (lines []line, want []uint32) {
	for k, v := range c.singles {
		lines = append(lines, out(k))
		want = append(want, v)
	}
	return lines, want
}

func (c content) tellSlots() (lines []line, want []uint32) {
	for k, v := range c.slots {
		lines = append(lines, out(0).before(move(double(0), slot(k))), out(1))
		want = append(want, uint32(v%(1<<32)), uint32(v/(1<<32)))
	}
	return lines, want
}

// expectContent has the lines done, each once, where all is as in was, and asks of each register and each slot what is in it then.
func expectContent(t *testing.T, was, want content, ins, outs []uint32, lines ...line) {
	t.Helper()
	for _, tell := range []func() ([]line, []uint32){want.tellSingles, want.tellSlots} {
		telling, told := tell()
		all := slices.Concat(was.fill(), lines, telling)
		p, l := laid(all...)
		shown := api.Shown{State: api.Ended, Out: slices.Concat(outs, told), Steps: len(all)}
		expectOf(t, p, target(len(was.singles)), l, ins, api.MaxSteps, shown)
	}
}
