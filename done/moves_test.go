package done

import (
	"testing"

	"loanbook/api"
)

// expectMoved has the moves done ahead of an instruction, and behind one.
func expectMoved(t *testing.T, was, want content, moves ...api.Move) {
	t.Helper()
	expectContent(t, was, want, nil, nil, idle().before(moves...))
	expectContent(t, was, want, nil, nil, idle().after(moves...))
}

func edgeSlots() []api.Place { return []api.Place{slot(0), slot(1), slot(api.MaxSlots - 1)} }

func TestConstMoves(t *testing.T) {
	for _, singles := range targets() {
		was := distinct(singles)
		for _, to := range edgeSingles(singles) {
			for _, n := range []uint32{0, 1, 7, 1 << 31, max32} {
				expectMoved(t, was, was.with(to, uint64(n)), constant(to.N, n))
			}
		}
	}
}

// TestMovesOfOneKind has those of a place to itself, too.
func TestMovesOfOneKind(t *testing.T) {
	for _, singles := range targets() {
		was := distinct(singles)
		for _, list := range [][]api.Place{edgeSingles(singles), edgeDoubles(singles)} {
			for _, to := range list {
				for _, from := range list {
					expectMoved(t, was, was.with(to, was.of(from)), move(to, from))
				}
			}
		}
	}
}

func TestMovesToSlots(t *testing.T) {
	for _, singles := range targets() {
		was := distinct(singles)
		for _, to := range edgeSlots() {
			for _, from := range append(edgeSingles(singles), edgeDoubles(singles)...) {
				expectMoved(t, was, was.with(to, was.of(from)), move(to, from))
			}
		}
	}
}

func TestMovesFromSlots(t *testing.T) {
	for _, singles := range targets() {
		for _, v := range []uint64{0, 1, max32, 1 << 32, 1<<32 + 7, 1 << 63, 5<<32 + max32, 1<<64 - 1<<32, 1<<64 - 1} {
			for _, from := range edgeSlots() {
				was := distinct(singles).with(from, v)
				for _, to := range edgeSingles(singles) {
					expectMoved(t, was, was.with(to, v%(1<<32)), move(to, from))
				}
				for _, to := range edgeDoubles(singles) {
					expectMoved(t, was, was.with(to, v), move(to, from))
				}
			}
		}
	}
}

// TestSlotsOfNarrowAndWide: a slot that a single register went to has nothing left above it.
func TestSlotsOfNarrowAndWide(t *testing.T) {
	was := distinct(api.MaxSingles)
	low, high := was.singles[14], was.singles[15]
	all := uint64(high)<<32 + uint64(low)
	expectMoved(t, was, was.with(slot(4), all).with(double(2), all), move(slot(4), double(7)), move(double(2), slot(4)))
	expectMoved(t, was, was.with(slot(4), uint64(high)).with(double(2), uint64(high)), move(slot(4), single(15)), move(double(2), slot(4)))
	expectMoved(t, was, was.with(slot(4), uint64(low)), move(slot(4), double(7)), move(slot(4), single(14)))
	expectMoved(t, was, was.with(slot(4), all).with(single(3), uint64(low)), move(slot(4), double(7)), move(single(3), slot(4)))
	// A single register that a slot went to leaves the one beside it as it was.
	expectMoved(t, was, was.with(slot(4), all).with(single(0), uint64(low)), move(slot(4), double(7)), move(single(0), slot(4)))
}

// TestMovesInOrder has moves that take what another one gave, or that give what another one took.
func TestMovesInOrder(t *testing.T) {
	was := distinct(api.MaxSingles)
	s0, s1, s2 := was.of(single(0)), was.of(single(1)), was.of(single(2))
	d0, d7, k0 := was.of(double(0)), was.of(double(7)), was.of(slot(0))
	expectMoved(t, was, was.with(single(0), s2).with(single(1), s2), move(single(1), single(2)), move(single(0), single(1)))
	expectMoved(t, was, was.with(single(0), s1).with(single(1), s2), move(single(0), single(1)), move(single(1), single(2)))
	expectMoved(t, was, was.with(single(0), s1).with(single(1), s0).with(single(2), s0), move(single(2), single(0)), move(single(0), single(1)), move(single(1), single(2)))
	expectMoved(t, was, was.with(double(0), d7).with(double(7), d0).with(slot(5), d0), move(slot(5), double(0)), move(double(0), double(7)), move(double(7), slot(5)))
	expectMoved(t, was, was.with(single(4), 2), constant(4, 1), constant(4, 2))
	expectMoved(t, was, was.with(single(4), s0), constant(4, 1), move(single(4), single(0)))
	expectMoved(t, was, was.with(single(4), 1).with(slot(0), 1), constant(4, 1), move(slot(0), single(4)))
	expectMoved(t, was, was.with(single(4), 1).with(single(5), 2).with(double(6), 2<<32+1), constant(4, 1), constant(5, 2), move(double(6), double(2)))
	expectMoved(t, was, was.with(double(2), k0).with(single(1), k0>>32), move(double(2), slot(0)), move(single(1), single(5)))
	expectMoved(t, was, was.with(double(2), k0).with(single(4), 3), move(double(2), slot(0)), constant(4, 3))
	expectMoved(t, was, was.with(double(2), k0), constant(4, 3), move(double(2), slot(0)))
	// As many as there may be, each taking what the one ahead of it gave.
	expectMoved(t, was, was.with(single(6), 9).with(single(7), 9).with(slot(1), 9).with(double(0), 9).with(slot(2), 9).with(single(15), 9),
		constant(6, 9), move(single(7), single(6)), move(slot(1), single(7)), move(double(0), slot(1)), move(slot(2), double(0)), move(single(15), slot(2)))
}

// TestOrderOfBeforeAndAfter: Before of each instruction, then it, then After.
func TestOrderOfBeforeAndAfter(t *testing.T) {
	was := distinct(8)
	s3 := was.of(single(3))
	both := give(3, 1).before(move(slot(0), single(3))).after(move(slot(1), single(3)))
	expectContent(t, was, was.with(single(3), 1).with(slot(0), s3).with(slot(1), 1), nil, nil, both)
	next := give(3, 2).before(move(slot(2), single(3))).after(move(slot(3), single(3)))
	want := was.with(single(3), 2).with(slot(0), s3).with(slot(1), 1).with(slot(2), 1).with(slot(3), 2)
	expectContent(t, was, want, nil, nil, both, next)
	// What After gave, the Before of the next one takes.
	expectContent(t, was, was.with(single(5), 7).with(slot(6), 7), nil, nil, idle().after(constant(5, 7)), idle().before(move(slot(6), single(5))))
	expectContent(t, was, was.with(single(5), 8), nil, nil, idle().after(constant(5, 7)), idle().before(constant(5, 8)))
}

// straight has each instruction that goes on with the next one, in places that do not overlap: 10 and 11 are A and its upper half, or 11 is B; Dest is 12, or 12 and 13.
func straight() []line {
	list := []line{
		give(12, 6),
		in(12),
		out(10),
		do(api.XMove, single(12), single(10), empty()),
		do(api.XMove, double(6), double(5), empty()),
		do(api.XPair, double(6), single(10), single(11)),
		do(api.XLow, single(12), double(5), empty()),
		do(api.XHigh, single(12), double(5), empty()),
	}
	for op := api.OpAdd; op <= api.OpLess; op++ {
		list = append(list, do(api.XOp+op, single(12), single(10), single(11)))
	}
	for op := api.OpAdd; op <= api.OpXor; op++ {
		list = append(list, do(api.XWide+op, double(6), double(5), double(5)))
	}
	return list
}

// TestBeforeOfEach: to give A and B their numbers by Before is as to have them there, and that Dest had another one makes nothing else.
func TestBeforeOfEach(t *testing.T) {
	for _, l := range straight() {
		for _, c := range [][2]uint32{{3, 4}, {0, 0}, {max32, 1}, {5, max32}} {
			was := distinct(api.MaxSingles)
			there := was.with(single(10), uint64(c[0])).with(single(11), uint64(c[1]))
			want, outs := becomes(there, l, 77)
			expectContent(t, there, want, []uint32{77}, outs, l)
			expectContent(t, was, want, []uint32{77}, outs, l.before(constant(10, c[0]), constant(11, c[1])))
			if l.Row.Dest != (api.Place{}) {
				expectContent(t, was, want, []uint32{77}, outs, l.before(constant(12, 99), constant(10, c[0]), constant(11, c[1])))
			}
		}
	}
}

// TestAfterOfEach: After takes what the instruction gave, and what After changes, the instruction took as it was.
func TestAfterOfEach(t *testing.T) {
	for _, l := range straight() {
		was := distinct(api.MaxSingles)
		given, outs := becomes(was, l, 77)
		want := given.with(slot(7), given.of(double(6)))
		expectContent(t, was, want, []uint32{77}, outs, l.after(move(slot(7), double(6))))
		want = given.with(single(10), 1).with(single(11), 2).with(double(6), 4<<32+3)
		expectContent(t, was, want, []uint32{77}, outs, l.after(constant(10, 1), constant(11, 2), constant(12, 3), constant(13, 4)))
	}
}

// becomes is what one of straight makes, where next is to come in.
func becomes(c content, l line, next uint32) (content, []uint32) {
	a, b, both := c.of(single(10)), c.of(single(11)), c.of(double(5))
	dest := l.Row.Dest
	switch l.Op {
	case api.XConst:
		return c.with(dest, uint64(l.N)), nil
	case api.XIn:
		return c.with(dest, uint64(next)), nil
	case api.XOut:
		return c, []uint32{uint32(a)}
	case api.XMove:
		return c.with(dest, c.of(l.Row.A)), nil
	case api.XPair:
		return c.with(dest, both), nil
	case api.XLow:
		return c.with(dest, a), nil
	case api.XHigh:
		return c.with(dest, b), nil
	case api.XWide + api.OpAdd:
		return c.with(dest, both+both), nil
	case api.XWide + api.OpSub, api.XWide + api.OpXor:
		return c.with(dest, 0), nil
	case api.XWide + api.OpMul:
		return c.with(dest, both*both), nil
	case api.XWide + api.OpAnd:
		return c.with(dest, both), nil
	case api.XOp + api.OpAdd:
		return c.with(dest, (a+b)%(1<<32)), nil
	case api.XOp + api.OpSub:
		return c.with(dest, (a+1<<32-b)%(1<<32)), nil
	case api.XOp + api.OpMul:
		return c.with(dest, a*b%(1<<32)), nil
	case api.XOp + api.OpAnd:
		return c.with(dest, a&b), nil
	case api.XOp + api.OpXor:
		return c.with(dest, a^b), nil
	}
	less := uint64(0)
	if a < b {
		less = 1
	}
	return c.with(dest, less), nil
}

// TestAfterThatChangesWhatWasGiven: what After moves to Dest stays there.
func TestAfterThatChangesWhatWasGiven(t *testing.T) {
	was := distinct(8)
	expectContent(t, was, was.with(single(6), 2), []uint32{1}, nil, in(6).after(constant(6, 2)))
	expectContent(t, was, was.with(double(3), was.of(slot(0))), nil, nil, do(api.XMove, double(3), double(0), empty()).after(move(double(3), slot(0))))
	expectContent(t, was, was, nil, []uint32{was.singles[6]}, out(6).after(move(single(6), single(6))))
	expectContent(t, was, was.with(single(6), 2), nil, []uint32{was.singles[6]}, out(6).after(constant(6, 2)))
	expectContent(t, was, was.with(single(6), 2), nil, []uint32{2}, out(6).before(constant(6, 2)))
}

func TestBeforeOfJump(t *testing.T) {
	lines := []line{jump(2).before(constant(0, 5), constant(1, 6)), give(0, 9), out(0), out(1)}
	expect(t, nil, 9, api.Shown{State: api.Ended, Out: []uint32{5, 6}, Steps: 3}, lines...)
	// Each time that it is met.
	lines = []line{give(0, 1), give(1, 2), give(2, 3), out(0), jump(3).before(move(slot(0), single(0)), move(single(0), single(1)), move(single(1), single(2)), move(single(2), slot(0)))}
	expect(t, nil, 13, api.Shown{State: api.Runs, Out: []uint32{1, 2, 3, 1, 2}, Steps: 13}, lines...)
}

// TestBeforeOfIf: it is done whether the run goes on at C or not, and ahead of asking what is in A.
func TestBeforeOfIf(t *testing.T) {
	for _, n := range []uint32{0, 1} {
		lines := []line{in(0), onIf(0, 3).before(constant(1, 8)), out(1), out(1)}
		want := api.Shown{State: api.Ended, Out: []uint32{8, 8}, Steps: 4}
		if n == 1 {
			want = api.Shown{State: api.Ended, Out: []uint32{8}, Steps: 3}
		}
		expect(t, []uint32{n}, 9, want, lines...)
		lines[0], lines[1] = in(1), onIf(0, 3).before(move(single(0), single(1)), constant(1, 8))
		expect(t, []uint32{n}, 9, want, lines...)
	}
	// Before alone makes it go on at C, or keeps it from that.
	expect(t, nil, 9, api.Shown{State: api.Ended, Steps: 2}, onIf(15, 2).before(constant(15, 1)), out(0), idle())
	expect(t, nil, 9, api.Shown{State: api.Ended, Out: []uint32{0}, Steps: 4}, give(15, 1), onIf(15, 3).before(constant(15, 0)), out(0), idle())
}

// TestBeforeOfHalt: it halts all the same.
func TestBeforeOfHalt(t *testing.T) {
	full := halt().before(constant(0, 5), constant(1, 6), move(slot(0), double(0)), move(double(7), slot(0)), move(single(3), slot(0)), move(slot(11), single(3)))
	expect(t, nil, 9, api.Shown{State: api.Halted, Steps: 1}, full)
	expect(t, nil, 9, api.Shown{State: api.Halted, Out: []uint32{0}, Steps: 2}, out(0), full, out(0))
	expect(t, nil, 1, api.Shown{State: api.Runs, Out: []uint32{0}, Steps: 1}, out(0), full, out(0))
}

// TestMovesJumpedOver: neither Before nor After of an instruction that is not done is moved.
func TestMovesJumpedOver(t *testing.T) {
	over := give(2, 1).before(constant(0, 2), move(slot(0), single(0))).after(constant(1, 3), move(slot(1), single(1)))
	for _, lead := range [][]line{{give(3, 1), jump(3)}, {give(3, 1), onIf(3, 3)}} {
		lines := append(lead, over, out(0), out(1), out(2), out(4).before(move(double(2), slot(0))), out(4).before(move(double(2), slot(1))))
		expect(t, nil, 9, api.Shown{State: api.Ended, Out: make([]uint32, 5), Steps: 7}, lines...)
		met := append([]line{idle(), idle()}, lines[2:]...)
		expect(t, nil, 9, api.Shown{State: api.Ended, Out: []uint32{2, 3, 1, 2, 3}, Steps: 8}, met...)
	}
	// Those behind a halt are not done, either; nor are those of the one where it is Ended.
	expect(t, nil, 9, api.Shown{State: api.Halted, Steps: 1}, halt(), over, out(0))
}

// TestMovesOfOneThatIsJumpedTo: its Before is done, the After of the one ahead of it is not.
func TestMovesOfOneThatIsJumpedTo(t *testing.T) {
	lines := []line{jump(2), give(0, 1).after(constant(1, 4), constant(2, 4)), out(1).before(constant(1, 5)), out(2)}
	expect(t, nil, 9, api.Shown{State: api.Ended, Out: []uint32{5, 0}, Steps: 3}, lines...)
}

// TestMovesOfTheLast: its Before is done ahead of it, and its After is no step, nor anything that is shown.
func TestMovesOfTheLast(t *testing.T) {
	last := out(7).before(constant(7, 4)).after(constant(7, 5), move(slot(0), single(7)))
	expect(t, nil, 9, api.Shown{State: api.Ended, Out: []uint32{4}, Steps: 1}, last)
	expect(t, nil, 9, api.Shown{State: api.Ended, Out: []uint32{0, 4}, Steps: 2}, out(7), last)
	expect(t, nil, 2, api.Shown{State: api.Ended, Out: []uint32{0, 4}, Steps: 2}, out(7), last)
	expect(t, nil, 1, api.Shown{State: api.Runs, Out: []uint32{0}, Steps: 1}, out(7), last)
}

// TestMovesEachTime: a loop in which an instruction's moves hand numbers round.
func TestMovesEachTime(t *testing.T) {
	round := out(0).before(move(slot(0), single(0)), move(single(0), single(1))).after(move(single(1), slot(0)))
	expect(t, nil, 11, api.Shown{State: api.Runs, Out: []uint32{2, 1, 2, 1, 2}, Steps: 11}, give(0, 1), give(1, 2), round, jump(2))
	// A number that one round left in a slot is there in the next one.
	sum := do(api.XOp+api.OpAdd, single(0), single(0), single(1)).before(move(single(0), slot(3)), constant(1, 10)).after(move(slot(3), single(0)))
	expect(t, nil, 12, api.Shown{State: api.Runs, Out: []uint32{10, 20, 30, 40}, Steps: 12}, sum, out(0), jump(0).before(constant(0, 99)))
}
