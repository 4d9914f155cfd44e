package done

import (
	"testing"

	"loanbook/api"
	"loanbook/num"
)

// targets are the least one, the greatest one and one between.
func targets() []int { return []int{4, 10, api.MaxSingles} }

// edgeSingles are the lowest and the highest registers, those of two double ones, and one that has no other here.
func edgeSingles(singles int) []api.Place {
	list := []api.Place{single(0), single(1), single(singles - 2), single(singles - 1)}
	if singles > 4 {
		list = append(list, single(3))
	}
	return list
}

func edgeDoubles(singles int) []api.Place {
	list := []api.Place{double(0), double(singles/2 - 1)}
	if singles > 4 {
		list = append(list, double(1))
	}
	return list
}

// expectGiven has an instruction done where each place has a number of its own.
func expectGiven(t *testing.T, singles int, l line, v uint64) {
	t.Helper()
	was := distinct(singles)
	expectContent(t, was, was.with(l.Row.Dest, v), nil, nil, l)
}

func TestFillAndTell(t *testing.T) {
	for _, singles := range targets() {
		was := distinct(singles)
		expectContent(t, was, was, nil, nil)
		expectContent(t, was, was, nil, nil, idle())
	}
}

func TestConst(t *testing.T) {
	for _, singles := range targets() {
		for _, dest := range edgeSingles(singles) {
			for _, n := range []uint32{0, 1, 7, 1 << 31, max32} {
				expectGiven(t, singles, give(dest.N, n), uint64(n))
			}
		}
	}
}

func TestMoveOfInstruction(t *testing.T) {
	for _, singles := range targets() {
		was := distinct(singles)
		for _, list := range [][]api.Place{edgeSingles(singles), edgeDoubles(singles)} {
			for _, dest := range list {
				for _, a := range list {
					expectGiven(t, singles, do(api.XMove, dest, a, empty()), was.of(a))
				}
			}
		}
	}
}

func TestIn(t *testing.T) {
	for _, singles := range targets() {
		was := distinct(singles)
		for _, dest := range edgeSingles(singles) {
			for _, n := range []uint32{0, 1, 1 << 31, max32} {
				expectContent(t, was, was.with(dest, uint64(n)), []uint32{n, 5}, nil, in(dest.N))
			}
			expectContent(t, was, was.with(dest, 0), nil, nil, in(dest.N))
			expectContent(t, was, was.with(dest, 8), []uint32{7, 8, 9}, nil, in(dest.N), in(dest.N))
		}
	}
}

func TestOut(t *testing.T) {
	for _, singles := range targets() {
		was := distinct(singles)
		for _, a := range edgeSingles(singles) {
			expectContent(t, was, was, nil, []uint32{was.singles[a.N]}, out(a.N))
			expectContent(t, was, was, nil, []uint32{was.singles[a.N], was.singles[a.N]}, out(a.N), out(a.N))
		}
	}
}

// TestPair has, among all, Dest whose lower or upper half is A, or B, or which is both, either way round.
func TestPair(t *testing.T) {
	for _, singles := range targets() {
		was := distinct(singles)
		for _, dest := range edgeDoubles(singles) {
			for _, a := range edgeSingles(singles) {
				for _, b := range edgeSingles(singles) {
					expectGiven(t, singles, do(api.XPair, dest, a, b), uint64(was.singles[b.N])*(1<<32)+uint64(was.singles[a.N]))
				}
			}
		}
	}
}

// TestHalves has, among all, Dest that is a half of A, the one that is given or the other one.
func TestHalves(t *testing.T) {
	for _, singles := range targets() {
		was := distinct(singles)
		for _, dest := range edgeSingles(singles) {
			for _, a := range edgeDoubles(singles) {
				expectGiven(t, singles, do(api.XLow, dest, a, empty()), uint64(was.singles[2*a.N]))
				expectGiven(t, singles, do(api.XHigh, dest, a, empty()), uint64(was.singles[2*a.N+1]))
			}
		}
	}
}

func TestNarrowOps(t *testing.T) {
	for _, singles := range targets() {
		was := distinct(singles)
		for op := api.OpAdd; op <= api.OpLess; op++ {
			for _, dest := range edgeSingles(singles) {
				for _, a := range edgeSingles(singles) {
					for _, b := range edgeSingles(singles) {
						v := num.Narrow(op, was.singles[a.N], was.singles[b.N])
						expectGiven(t, singles, do(api.XOp+op, dest, a, b), uint64(v))
					}
				}
			}
		}
	}
}

func TestWideOps(t *testing.T) {
	for _, singles := range targets() {
		was := distinct(singles)
		for op := api.OpAdd; op <= api.OpXor; op++ {
			for _, dest := range edgeDoubles(singles) {
				for _, a := range edgeDoubles(singles) {
					for _, b := range edgeDoubles(singles) {
						expectGiven(t, singles, do(api.XWide+op, dest, a, b), num.Wide(op, was.of(a), was.of(b)))
					}
				}
			}
		}
	}
}

// TestOpsByHand has numbers worked out apart from package num, with what goes from one half to the other.
func TestOpsByHand(t *testing.T) {
	d := distinct(api.MaxSingles)
	for _, c := range []struct {
		op         int
		a, b, want uint64
	}{
		{api.XOp + api.OpAdd, max32, 2, 1},
		{api.XOp + api.OpSub, 0, 1, max32},
		{api.XOp + api.OpMul, 1 << 31, 2, 0},
		{api.XOp + api.OpAnd, 12, 10, 8},
		{api.XOp + api.OpXor, 12, 10, 6},
		{api.XOp + api.OpLess, 0, max32, 1},
		{api.XOp + api.OpLess, max32, 0, 0},
	} {
		was := d.with(single(15), c.a).with(single(0), c.b)
		expectContent(t, was, was.with(single(14), c.want), nil, nil, do(c.op, single(14), single(15), single(0)))
	}
	for _, c := range []struct {
		op         int
		a, b, want uint64
	}{
		{api.XWide + api.OpAdd, max32, 2, 1<<32 + 1},
		{api.XWide + api.OpAdd, 1<<64 - 1, 2, 1},
		{api.XWide + api.OpSub, 1 << 32, 1, max32},
		{api.XWide + api.OpSub, 0, 1, 1<<64 - 1},
		{api.XWide + api.OpMul, 1 << 31, 2, 1 << 32},
		{api.XWide + api.OpAnd, 12<<32 + 10, 10<<32 + 12, 8<<32 + 8},
		{api.XWide + api.OpXor, 12<<32 + 10, 10<<32 + 12, 6<<32 + 6},
	} {
		was := d.with(double(7), c.a).with(double(0), c.b)
		expectContent(t, was, was.with(double(3), c.want), nil, nil, do(c.op, double(3), double(7), double(0)))
	}
}

// TestIf asks of a register whether it is 0, whatever is in all others.
func TestIf(t *testing.T) {
	for _, a := range edgeSingles(api.MaxSingles) {
		for _, n := range []uint32{0, 1, 1 << 16, 1 << 31, max32} {
			for _, others := range []uint32{0, 1} {
				var lines []line
				for k := range api.MaxSingles {
					lines = append(lines, give(k, others))
				}
				lines = append(lines, give(a.N, n), onIf(a.N, api.MaxSingles+3), out(a.N), halt())
				want := api.Shown{State: api.Halted, Steps: api.MaxSingles + 3}
				if n == 0 {
					want = api.Shown{State: api.Halted, Out: []uint32{0}, Steps: api.MaxSingles + 4}
				}
				expect(t, nil, 99, want, lines...)
			}
		}
	}
}

// TestDoubleHasItsSingles: what is in it is theirs, the upper one's 2^32 times.
func TestDoubleHasItsSingles(t *testing.T) {
	for n := range api.MaxSingles / 2 {
		for _, c := range [][2]uint32{{1, 0}, {0, 1}, {max32, 1}, {1, max32}, {max32, max32}, {1 << 31, 0}, {0, 1 << 31}} {
			other := (n + 3) % 8
			halves := []line{give(2*n, c[0]), give(2*n+1, c[1])}
			for k := range halves {
				first, second := halves[k], halves[1-k]
				// To add 2^32 tells the upper half from the lower one without any XLow or XHigh of it.
				lines := []line{first, second, give(2*other, 0), give(2*other+1, 1),
					do(api.XWide+api.OpAdd, double(other), double(n), double(other)), out(2 * other), out(2*other + 1)}
				expect(t, nil, 99, api.Shown{State: api.Ended, Out: []uint32{c[0], c[1] + 1}, Steps: 7}, lines...)
				lines = []line{first, second, do(api.XLow, single(2*other), double(n), empty()), out(2 * other),
					do(api.XHigh, single(2*other), double(n), empty()), out(2 * other)}
				expect(t, nil, 99, api.Shown{State: api.Ended, Out: c[:], Steps: 6}, lines...)
			}
		}
	}
}

// TestDoubleWhenOneChanges: the other one stays, and so does its half.
func TestDoubleWhenOneChanges(t *testing.T) {
	for n := range api.MaxSingles / 2 {
		was := distinct(api.MaxSingles).with(double(n), 5<<32+6)
		other := double((n + 1) % 8)
		for _, way := range []func(int) line{
			func(k int) line { return give(k, 9) },
			func(k int) line { return idle().before(constant(k, 9)) },
			func(k int) line { return idle().after(constant(k, 9)) },
		} {
			low := was.with(single(2*n), 9).with(other, 5<<32+9)
			expectContent(t, was, low, nil, nil, way(2*n), do(api.XMove, other, double(n), empty()))
			high := was.with(single(2*n+1), 9).with(other, 9<<32+6)
			expectContent(t, was, high, nil, nil, way(2*n+1), do(api.XMove, other, double(n), empty()))
		}
	}
}

// TestSinglesWhenDoubleChanges: both change, and no others do.
func TestSinglesWhenDoubleChanges(t *testing.T) {
	for n := range api.MaxSingles / 2 {
		other := (n + 1) % 8
		was := distinct(api.MaxSingles).with(double(other), 5<<32+6).with(slot(3), 5<<32+6)
		want := was.clone()
		want.singles[2*n], want.singles[2*n+1] = 6, 5
		for _, l := range []line{
			do(api.XMove, double(n), double(other), empty()),
			do(api.XPair, double(n), single(2*other), single(2*other+1)),
			do(api.XWide+api.OpAnd, double(n), double(other), double(other)),
			idle().before(move(double(n), double(other))),
			idle().after(move(double(n), double(other))),
			idle().before(move(double(n), slot(3))),
		} {
			expectContent(t, was, want, nil, nil, l)
		}
	}
}

// TestAheadOfBeingGiven: all is 0 at first.
func TestAheadOfBeingGiven(t *testing.T) {
	for singles := 4; singles <= api.MaxSingles; singles += 2 {
		none := content{make([]uint32, singles), make([]uint64, api.MaxSlots)}
		for _, tell := range []func() ([]line, []uint32){none.tellSingles, none.tellSlots} {
			lines, want := tell()
			p, l := laid(lines...)
			expectOf(t, p, target(singles), l, []uint32{7}, 99, api.Shown{State: api.Ended, Out: want, Steps: len(lines)})
		}
	}
	ended := func(out ...uint32) api.Shown { return api.Shown{State: api.Ended, Out: out, Steps: 3} }
	expect(t, nil, 9, ended(0, 0), do(api.XPair, double(7), single(0), single(1)), out(14), out(15))
	expect(t, nil, 9, ended(0, 0), do(api.XWide+api.OpSub, double(0), double(1), double(7)), out(0), out(1))
	expect(t, nil, 9, ended(0), do(api.XHigh, single(15), double(7), empty()), out(15), idle())
	expect(t, nil, 9, ended(0), do(api.XOp+api.OpXor, single(0), single(15), single(1)), out(0), onIf(15, 0))
	expect(t, nil, 9, ended(0, 0), give(0, 5).after(move(double(0), slot(11))), out(0), out(1))
	expect(t, nil, 9, ended(0, 5), give(1, 5), out(0), out(1).before(move(single(0), slot(0))))
}

// TestPlacesNotTemporaries: one temporary in two places is not the same, two in one are.
func TestPlacesNotTemporaries(t *testing.T) {
	p := api.Prog{Wide: make([]bool, api.MaxTemps), Code: []api.Ins{{Op: api.XIn, Dest: 3}, {Op: api.XIn, Dest: 4}, {Op: api.XOut, A: 3}, {Op: api.XOut, A: 4}, {Op: api.XOut, A: 5}}}
	for _, c := range []struct {
		at   [5]int
		want []uint32
	}{
		{[5]int{0, 1, 0, 1, 1}, []uint32{7, 8, 8}},
		{[5]int{0, 1, 1, 0, 0}, []uint32{8, 7, 7}},
		{[5]int{2, 2, 2, 2, 2}, []uint32{8, 8, 8}},
		{[5]int{0, 1, 2, 3, 0}, []uint32{0, 0, 7}},
	} {
		l := api.Placed{Rows: []api.Row{{Dest: single(c.at[0])}, {Dest: single(c.at[1])}, {A: single(c.at[2])}, {A: single(c.at[3])}, {A: single(c.at[4])}}}
		expectOf(t, p, target(4), l, []uint32{7, 8, 9}, 9, api.Shown{State: api.Ended, Out: c.want, Steps: 5})
	}
}
