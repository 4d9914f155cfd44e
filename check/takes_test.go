package check

import (
	"slices"
	"testing"

	"loanbook/api"
)

// expectFinds asks whether the line behind the others, ahead of which nothing is known, is taken.
func expectFinds(t *testing.T, want bool, lines ...line) {
	t.Helper()
	first := []line{in(in1(t0, 0)), in(in1(t1, 0)), jump(3).before(constant(0, 77), constant(1, 77), constant(2, 77), constant(3, 77))}
	expectTakes(t, want, slices.Concat(first, lines)...)
}

func TestTakesA(t *testing.T) {
	for _, taking := range []func(end) line{
		out,
		func(a end) line { return onIf(a, 0) },
		func(a end) line { return copied(in1(t0, 1), a) },
		func(a end) line { return copied(in1(t1, 1), a) },
	} {
		expectFinds(t, true, in(in1(t0, 1)), taking(in1(t0, 1)))
		expectFinds(t, false, in(in1(t0, 1)), taking(in1(t0, 2)))
		expectFinds(t, false, in(in1(t0, 1)), taking(in1(t1, 1)))
		expectFinds(t, false, in(in1(t0, 1)), in(in1(t1, 1)), taking(in1(t0, 1)))
		expectFinds(t, true, in(in1(t0, 1)), in(in1(t1, 1)), taking(in1(t1, 1)))
		expectFinds(t, false, in(in1(t0, 1)), in(in1(t0, 2)), taking(in1(t0, 1)))
		expectFinds(t, false, taking(in1(t0, 1)))
		// A number is not enough, where no temporary is known to be it.
		expectFinds(t, false, taking(in1(t0, 1)).before(constant(1, 0)))
		expectFinds(t, true, give(in1(t0, 2), 0), taking(in1(t0, 1)).before(constant(1, 0)))
		// An XConst over what was the same number: by the words, its place has its own temporary alone.
		expectFinds(t, false, give(in1(t0, 2), 5), give(in1(t1, 2), 5), taking(in1(t0, 2)))
		expectFinds(t, true, give(in1(t0, 2), 5), give(in1(t1, 2), 5), taking(in1(t1, 2)))
	}
}

func TestTakesWideA(t *testing.T) {
	made := pair(in2(t2, 1), in1(t0, 0), in1(t0, 0))
	for _, taking := range []func(end) line{
		func(a end) line { return copied(in2(t3, 0), a) },
		func(a end) line { return copied(in2(t2, 0), a) },
		func(a end) line { return do(api.XLow, in1(t0, 0), a, end{}) },
		func(a end) line { return do(api.XHigh, in1(t0, 0), a, end{}) },
	} {
		expectFinds(t, true, in(in1(t0, 0)), made, taking(in2(t2, 1)))
		expectFinds(t, false, in(in1(t0, 0)), made, taking(in2(t2, 0)))
		expectFinds(t, false, in(in1(t0, 0)), made, taking(in2(t3, 1)))
		expectFinds(t, false, in(in1(t0, 0)), made.after(constant(2, 1)), taking(in2(t2, 1)))
		expectFinds(t, false, in(in1(t0, 0)), made.after(constant(3, 1)), taking(in2(t2, 1)))
		expectFinds(t, true, in(in1(t0, 0)), made.after(constant(0, 1)), taking(in2(t2, 1)))
	}
}

// twos are instructions that take an A and a B.
func twos(kind int, last int) []func(dest, a, b end) line {
	var list []func(dest, a, b end) line
	for op := kind + api.OpAdd; op <= kind+last; op++ {
		list = append(list, func(dest, a, b end) line { return do(op, dest, a, b) })
	}
	return list
}

func TestTakesAAndB(t *testing.T) {
	both := []line{in(in1(t0, 2)), in(in1(t1, 3))}
	expectOf := func(want bool, taking line) {
		t.Helper()
		expectFinds(t, want, append(slices.Clone(both), taking)...)
	}
	for _, taking := range append(twos(api.XOp, api.OpLess), func(_, a, b end) line { return pair(in2(t2, 0), a, b) }) {
		d := in1(t0, 0)
		expectOf(true, taking(d, in1(t0, 2), in1(t1, 3)))
		expectOf(true, taking(d, in1(t1, 3), in1(t0, 2)))
		expectOf(true, taking(d, in1(t0, 2), in1(t0, 2)))
		// Only A, only B, neither.
		expectOf(false, taking(d, in1(t0, 2), in1(t1, 1)))
		expectOf(false, taking(d, in1(t0, 2), in1(t1, 2)))
		expectOf(false, taking(d, in1(t0, 2), in1(t0, 3)))
		expectOf(false, taking(d, in1(t0, 1), in1(t1, 3)))
		expectOf(false, taking(d, in1(t0, 3), in1(t1, 3)))
		expectOf(false, taking(d, in1(t1, 2), in1(t1, 3)))
		expectOf(false, taking(d, in1(t0, 3), in1(t1, 2)))
	}
}

func TestTakesWideAAndB(t *testing.T) {
	both := []line{in(in1(t0, 0)), pair(in2(t2, 1), in1(t0, 0), in1(t0, 0)), pair(in2(t3, 0), in1(t0, 0), in1(t0, 0))}
	for _, taking := range twos(api.XWide, api.OpXor) {
		expectFinds(t, true, append(slices.Clone(both), taking(in2(t2, 0), in2(t2, 1), in2(t3, 0)))...)
		expectFinds(t, true, append(slices.Clone(both), taking(in2(t3, 0), in2(t3, 0), in2(t3, 0)))...)
		expectFinds(t, false, append(slices.Clone(both), taking(in2(t2, 0), in2(t2, 0), in2(t3, 0)))...)
		expectFinds(t, false, append(slices.Clone(both), taking(in2(t2, 0), in2(t2, 1), in2(t3, 1)))...)
		expectFinds(t, false, append(slices.Clone(both), taking(in2(t2, 0), in2(t3, 1), in2(t2, 0)))...)
	}
}

// TestTakesBehindBefore: what Before brings is there, what it writes over is not; After comes too late.
func TestTakesBehindBefore(t *testing.T) {
	stored := in(in1(t0, 1)).after(move(slot(1), single(1)), constant(1, 77))
	expectFinds(t, true, stored, out(in1(t0, 2)).before(move(single(2), slot(1))))
	expectFinds(t, true, stored, out(in1(t0, 3)).before(move(single(2), slot(1)), move(single(3), single(2))))
	expectFinds(t, false, stored, out(in1(t0, 3)).before(move(single(3), single(2)), move(single(2), slot(1))))
	expectFinds(t, false, stored, out(in1(t0, 2)).before(move(single(2), slot(1)), constant(2, 3)))
	expectFinds(t, false, stored, out(in1(t0, 2)).before(move(single(2), slot(0))))
	expectFinds(t, false, stored, out(in1(t0, 2)))
	expectFinds(t, false, stored, out(in1(t0, 2)).after(move(single(2), slot(1))))
	expectFinds(t, true, in(in1(t0, 1)), out(in1(t0, 1)).after(constant(1, 77)))
	expectFinds(t, false, in(in1(t0, 1)), out(in1(t0, 1)).before(constant(1, 77)))
	expectFinds(t, false, in(in1(t0, 1)).after(constant(1, 77)), out(in1(t0, 1)))
	sum := do(api.XOp+api.OpAdd, in1(t0, 0), in1(t0, 2), in1(t1, 3))
	expectFinds(t, true, stored, in(in1(t1, 3)), sum.before(move(single(2), slot(1))))
	expectFinds(t, true, in(in1(t0, 2)), in(in1(t1, 0)), sum.before(move(single(3), single(0))))
	expectFinds(t, false, in(in1(t0, 2)), in(in1(t1, 0)), sum.before(move(single(2), single(0)), move(single(3), single(2))))
}

// TestTakesWhatIsKnownToBeANumber: a Const move brings a temporary that is its number.
func TestTakesWhatIsKnownToBeANumber(t *testing.T) {
	expectFinds(t, true, give(in1(t0, 1), 5), out(in1(t0, 2)).before(constant(2, 5)))
	expectFinds(t, false, give(in1(t0, 1), 5), out(in1(t0, 2)).before(constant(2, 6)))
	expectFinds(t, false, give(in1(t0, 1), 5), in(in1(t0, 1)), out(in1(t0, 2)).before(constant(2, 5)))
	expectFinds(t, true, give(in1(t0, 1), 5), copied(in1(t1, 3), in1(t0, 1)), in(in1(t0, 1)), out(in1(t1, 2)).before(constant(2, 5)))
}

// TestTakesWhatTakesNothing: such an instruction may stand where nothing is known.
func TestTakesWhatTakesNothing(t *testing.T) {
	expectFinds(t, true, halt())
	expectFinds(t, true, jump(3))
	expectFinds(t, true, in(in1(t0, 1)))
	expectFinds(t, true, give(in1(t0, 1), 5))
	expectFinds(t, true, in(in1(t1, 1)).before(constant(2, 5)).after(constant(1, 5)))
}

// TestTakesAtTheBeginning: all temporaries are everywhere.
func TestTakesAtTheBeginning(t *testing.T) {
	for n := range singles {
		expectTakes(t, true, out(in1(t0, n)), out(in1(t1, n)))
		expectTakes(t, true, do(api.XLow, in1(t1, 3), in2(t2, n/2), end{}), out(in1(t0, 0)))
		expectTakes(t, false, constantAhead(n), out(in1(t0, n)))
		expectTakes(t, true, out(in1(t0, n)).before(constant(n, 0)))
		expectTakes(t, false, out(in1(t0, n)).before(constant(n, 1)))
	}
}

func constantAhead(n int) line { return jump(1).before(constant(n, 9)) }

// TestTakesEachInstruction: each one to which a way leads is asked, the first one, the last one, and one that only an if leads to.
func TestTakesEachInstruction(t *testing.T) {
	expectTakes(t, false, out(in1(t0, 1)).before(constant(1, 9)), halt())
	expectTakes(t, false, in(in1(t0, 1)), out(in1(t0, 1)), out(in1(t0, 2)).before(constant(2, 9)))
	bad := out(in1(t0, 2)).before(constant(2, 9))
	expectTakes(t, false, in(in1(t0, 1)), onIf(in1(t0, 1), 3), halt(), bad)
	expectTakes(t, false, in(in1(t0, 1)), onIf(in1(t0, 1), 3), bad, halt())
	expectTakes(t, false, in(in1(t0, 1)), jump(3), halt(), bad)
	// Also where no run comes: what is known of an if's A is not asked.
	expectTakes(t, false, give(in1(t0, 1), 0), onIf(in1(t0, 1), 3), halt(), bad)
	expectTakes(t, false, give(in1(t0, 1), 1), onIf(in1(t0, 1), 3), bad, halt())
}

func TestTakesDoesNotAskWhereNoWayLeads(t *testing.T) {
	bad := out(in1(t0, 2)).before(constant(2, 9))
	expectTakes(t, true, halt(), bad)
	expectTakes(t, true, in(in1(t0, 1)), jump(3), bad, out(in1(t0, 1)))
	expectTakes(t, true, in(in1(t0, 1)), jump(4), bad, jump(2), out(in1(t0, 1)))
	// Nor does it matter what comes from there.
	expectTakes(t, true, in(in1(t0, 1)), jump(3), in(in1(t0, 2)).after(constant(1, 9)), out(in1(t0, 1)))
}

func TestTakesWhereWaysMeet(t *testing.T) {
	ways := func(one, other line) []line {
		return []line{in(in1(t1, 0)), onIf(in1(t1, 0), 4), one, jump(5), other, out(in1(t0, 3))}
	}
	expectTakes(t, true, ways(in(in1(t0, 3)), in(in1(t0, 3)))...)
	expectTakes(t, false, ways(in(in1(t0, 3)), in(in1(t0, 2)))...)
	expectTakes(t, false, ways(in(in1(t0, 2)), in(in1(t0, 3)))...)
	expectTakes(t, true, ways(in(in1(t0, 3)), in(in1(t0, 2)).after(move(single(3), single(2))))...)
	expectTakes(t, true, ways(in(in1(t0, 3)), give(in1(t0, 3), 4))...)
	expectTakes(t, false, ways(in(in1(t0, 3)), in(in1(t1, 3)))...)
}

func TestTakesLoops(t *testing.T) {
	loop := func(last line) []line { return []line{in(in1(t0, 1)), out(in1(t0, 1)), last, onIf(in1(t0, 1), 1)} }
	expectTakes(t, true, loop(in(in1(t1, 2)))...)
	expectTakes(t, true, loop(in(in1(t0, 1)))...)
	expectTakes(t, false, loop(in(in1(t1, 1)))...)
	expectTakes(t, true, loop(in(in1(t1, 1)).before(move(slot(0), single(1))).after(move(single(1), slot(0))))...)
	// The first round finds what the second one does not.
	expectTakes(t, false, in(in1(t0, 1)), out(in1(t0, 1)), jump(1).before(constant(1, 9)))
	expectTakes(t, true, in(in1(t0, 1)), out(in1(t0, 1)), jump(1).before(constant(2, 9)))
}
