package check

import (
	"testing"

	"loanbook/api"
)

func TestConst(t *testing.T) {
	expectBehind(t, "t0=5 s1=5 s1:t0", give(in1(t0, 1), 5))
	expectBehind(t, "t0=0 s1=0 s1:t0", give(in1(t0, 1), 0))
	expectBehind(t, "t1=4294967295 s3=4294967295 s3:t1", give(in1(t1, 3), max32))
	// What was of the temporary, and of the place, goes.
	expectBehind(t, "t0=6 s1=6 s1:t0", give(in1(t0, 1), 5), give(in1(t0, 1), 6))
	expectBehind(t, "t0=6 s1=5 s2=6 s2:t0", give(in1(t0, 1), 5), give(in1(t0, 2), 6))
	expectBehind(t, "t0=5 t1=6 s1=6 s1:t1", give(in1(t0, 1), 5), give(in1(t1, 1), 6))
	expectBehind(t, "t0=5 s1=5 s1:t0", give(in1(t0, 1), 5), give(in1(t0, 1), 5))
}

// TestConstOfPlaces: each place that is the number has the temporary, too.
func TestConstOfPlaces(t *testing.T) {
	expectBehind(t, "t0=5 t1=5 s1=5 s1:t0 s1:t1 s2=5 s2:t0 s2:t1", give(in1(t0, 1), 5), give(in1(t1, 2), 5).after(constant(2, 5)))
	expectBehind(t, "t0=5 t1=5 s1=5 s1:t0 s1:t1 s2=5 s2:t1", give(in1(t0, 1), 5), give(in1(t1, 2), 5))
	expectBehind(t, "t0=5 s1=5 s1:t0 s2=5 s2:t0", give(in1(t0, 1), 5), give(in1(t0, 2), 5))
	expectBehind(t, "t0=5 s1=5 s1:t0 s2=5 s2:t0 k1=5 k1:t0", in(in1(t0, 3)), idle().after(constant(3, 5), move(slot(1), single(3)), move(single(2), slot(1)), constant(3, 77)), give(in1(t0, 1), 5))
	expectBehind(t, "t0=5 s1=5 s1:t0 k0=0", idle().after(constant(3, 0), move(slot(0), single(3)), constant(3, 77)), give(in1(t0, 1), 5))
	// A fact that does not stay tells nothing: s1 was the number, and was given it once more.
	expectBehind(t, "t0=5 t1=5 s1=5 s1:t1", give(in1(t0, 1), 5), give(in1(t1, 1), 5))
	// A place that is the number, of one that loses another temporary.
	expectBehind(t, "t0=5 t1=6 s0=6 s0:t1 s1=5 s1:t0 s2=5 s2:t0", give(in1(t1, 1), 5), give(in1(t0, 2), 5), give(in1(t1, 0), 6))
}

func TestConstOverlaps(t *testing.T) {
	expectBehind(t, "t0=5 s2=5 s2:t0 d0:t2", append(wide(), give(in1(t0, 2), 5))...)
	expectBehind(t, "t0=5 s0=5 s0:t0", append(wide(), give(in1(t0, 0), 5))...)
	expectBehind(t, "t0=5 s1=5 s1:t0", append(wide(), give(in1(t0, 1), 5))...)
	expectBehind(t, "t0=5 s1=5 s1:t0 s3:t1", append(halves(), give(in1(t0, 1), 5))...)
	expectBehind(t, "t0=5 s3=5 s3:t0", append(halves(), give(in1(t0, 3), 5))...)
}

func TestMoveOfTemporaries(t *testing.T) {
	expectBehind(t, "s1:t0 s1:t1 s2:t0 s2:t1", in(in1(t0, 2)), copied(in1(t1, 1), in1(t0, 2)))
	expectBehind(t, "d0:t2 d0:t3 d1:t2 d1:t3", append(wide(), copied(in2(t3, 1), in2(t2, 0)))...)
	// What was of Dest goes, wherever it was.
	expectBehind(t, "s1:t0 s1:t1 s2:t0 s2:t1", append(halves(), copied(in1(t1, 1), in1(t0, 2)))...)
	expectBehind(t, "s0=6 s1:t0 s1:t1 s2:t0 s2:t1", in(in1(t0, 2)), give(in1(t1, 0), 6), copied(in1(t1, 1), in1(t0, 2)))
	// Over what A was in: it is there still.
	expectBehind(t, "s2:t0 s2:t1", in(in1(t0, 2)), copied(in1(t1, 2), in1(t0, 2)))
	expectBehind(t, "d0:t2 d0:t3", append(wide(), copied(in2(t3, 0), in2(t2, 0)))...)
	// A's place is not asked what it has: that is asked of places that are taken.
	expectBehind(t, "s1:t0 s1:t1", copied(in1(t1, 1), in1(t0, 2)))
	expectBehind(t, "s0:t0 s0:t1 s1:t0 s1:t1", in(in1(t0, 0)), copied(in1(t1, 1), in1(t0, 2)))
}

// TestMoveOfEachPlace: all that had A, but those that overlap Dest's place, have Dest.
func TestMoveOfEachPlace(t *testing.T) {
	everywhere := in(in1(t0, 0)).after(move(single(1), single(0)), move(slot(1), single(0)))
	expectBehind(t, "s0:t0 s0:t1 s1:t0 s1:t1 s2:t0 s2:t1 k1:t0 k1:t1", everywhere, copied(in1(t1, 2), in1(t0, 0)))
	expectBehind(t, "s0:t0 s0:t1 s1:t0 s1:t1 k1:t0 k1:t1", everywhere, copied(in1(t1, 1), in1(t0, 0)))
	both := append(wide(), idle().after(move(double(1), double(0)), move(slot(0), double(0))))
	expectBehind(t, "d0:t2 d0:t3 d1:t2 d1:t3 k0:t2 k0:t3", append(both, copied(in2(t3, 1), in2(t2, 0)))...)
	// Single registers of Dest's place go, and so does a double register that Dest's place is half of.
	expectBehind(t, "d0:t2 d0:t3 d1:t2 d1:t3", append(append(halves(), wide()...), copied(in2(t3, 1), in2(t2, 0)))...)
	expectBehind(t, "s1:t0 s1:t1 s2:t0 s2:t1", append(wide(), in(in1(t0, 2)), copied(in1(t1, 1), in1(t0, 2)))...)
	expectBehind(t, "s2:t0 s2:t1 s3:t0 s3:t1 d0:t2", append(wide(), in(in1(t0, 2)), copied(in1(t1, 3), in1(t0, 2)))...)
}

func TestMoveOfNumbers(t *testing.T) {
	expectBehind(t, "t0=5 t1=5 s1=5 s1:t0 s1:t1 s2=5 s2:t0 s2:t1", give(in1(t0, 2), 5), copied(in1(t1, 1), in1(t0, 2)))
	expectBehind(t, "t0=0 t1=0 s2=0 s2:t0 s2:t1", give(in1(t0, 2), 0), copied(in1(t1, 2), in1(t0, 2)))
	// The number is the temporary's, not that of the place from which it is taken.
	expectBehind(t, "t0=5 t1=5 s1=5 s1:t0 s1:t1", give(in1(t0, 2), 5).after(constant(2, 77)), copied(in1(t1, 1), in1(t0, 2)))
	expectBehind(t, "s1:t0 s1:t1 s2=5", give(in1(t0, 2), 5), in(in1(t0, 3)).after(constant(3, 77)), copied(in1(t1, 1), in1(t0, 2)))
	// Numbers that Dest was are not its own any more.
	expectBehind(t, "t0=5 t1=5 s0=6 s1=5 s1:t0 s1:t1 s2=5 s2:t0 s2:t1", give(in1(t0, 2), 5), give(in1(t1, 0), 6), copied(in1(t1, 1), in1(t0, 2)))
	expectBehind(t, "s0:t0 s0:t1 s1=5 s2:t0 s2:t1", give(in1(t0, 1), 5), in(in1(t1, 2)), copied(in1(t0, 0), in1(t1, 2)))
	// A place that is the number, and is not known to have A, has not for that Dest.
	expectBehind(t, "t0=5 t1=5 s1=5 s1:t0 s1:t1 s2=5", give(in1(t0, 2), 5), give(in1(t1, 2), 5), copied(in1(t1, 1), in1(t0, 3)))
}

// TestMoveToItself: of a temporary to itself, all stays but what overlaps the place.
func TestMoveToItself(t *testing.T) {
	expectBehind(t, "t0=5 s1=5 s1:t0 s2=5 s2:t0", give(in1(t0, 2), 5), copied(in1(t0, 1), in1(t0, 2)))
	expectBehind(t, "t0=5 s2=5 s2:t0", give(in1(t0, 2), 5), copied(in1(t0, 2), in1(t0, 2)))
	expectBehind(t, "s1:t0 s2:t0 s3:t1", append(halves(), copied(in1(t0, 1), in1(t0, 2)))...)
	expectBehind(t, "s2:t0 s3:t0", append(halves(), copied(in1(t0, 3), in1(t0, 2)))...)
	expectBehind(t, "d0:t2 d1:t2", append(append(wide(), halves()...), copied(in2(t2, 1), in2(t2, 0)))...)
	expectBehind(t, "d0:t2", append(wide(), copied(in2(t2, 0), in2(t2, 0)))...)
	expectBehind(t, "s1:t0", copied(in1(t0, 1), in1(t0, 2)))
}

// some facts are there, one of each kind, for what the instructions below leave of them.
func some() []line {
	one, other := pair(in2(t3, 1), in1(t0, 0), in1(t0, 0)), pair(in2(t2, 1), in1(t0, 0), in1(t0, 0))
	return []line{one.after(move(slot(0), double(1))), other, give(in1(t0, 0), 5).after(move(slot(1), single(0))), give(in1(t1, 1), 6)}
}

const ofSome = "t0=5 t1=6 s0=5 s0:t0 s1=6 s1:t1 d1:t2 k0:t3 k1=5 k1:t0"

// expectLeft has what is left of some behind the instruction.
func expectLeft(t *testing.T, want string, i line) {
	t.Helper()
	expectBehind(t, want, append(some(), i)...)
}

// narrowOps take what they take in places of any kind that may be.
func narrowOps() []func(dest end) line {
	list := []func(dest end) line{in}
	for _, op := range []int{api.XLow, api.XHigh} {
		list = append(list, func(dest end) line { return do(op, dest, in2(t2, 1), end{}) })
	}
	for op := api.XOp + api.OpAdd; op <= api.XOp+api.OpLess; op++ {
		list = append(list,
			func(dest end) line { return do(op, dest, in1(t0, 0), in1(t1, 1)) },
			func(dest end) line { return do(op, dest, in1(t1, 1), in1(t1, 1)) })
	}
	return list
}

func wideOps() []func(dest end) line {
	list := []func(dest end) line{func(dest end) line { return pair(dest, in1(t0, 0), in1(t1, 1)) }}
	for op := api.XWide + api.OpAdd; op <= api.XWide+api.OpXor; op++ {
		list = append(list, func(dest end) line { return do(op, dest, in2(t2, 1), in2(t3, 0)) })
	}
	return list
}

// TestOthersThatGive: nothing is known of what they give but where it is.
func TestOthersThatGive(t *testing.T) {
	expectLeft(t, ofSome, idle())
	for _, op := range narrowOps() {
		expectLeft(t, "t1=6 s0:t0 s1=6 s1:t1 d1:t2 k0:t3 k1=5", op(in1(t0, 0)))
		expectLeft(t, "t0=5 s0=5 s0:t0 s1:t1 d1:t2 k0:t3 k1=5 k1:t0", op(in1(t1, 1)))
		expectLeft(t, "t0=5 s0:t1 s1=6 d1:t2 k0:t3 k1=5 k1:t0", op(in1(t1, 0)))
		expectLeft(t, "t1=6 s0=5 s1=6 s1:t1 s2:t0 k0:t3 k1=5", op(in1(t0, 2)))
		expectLeft(t, "t0=5 s0=5 s0:t0 s1=6 s3:t1 k0:t3 k1=5 k1:t0", op(in1(t1, 3)))
	}
	for _, op := range wideOps() {
		expectLeft(t, ofSome, op(in2(t2, 1)))
		expectLeft(t, "t0=5 t1=6 s0=5 s0:t0 s1=6 s1:t1 d1:t3 k1=5 k1:t0", op(in2(t3, 1)))
		expectLeft(t, "t0=5 t1=6 d0:t2 k0:t3 k1=5 k1:t0", op(in2(t2, 0)))
		expectLeft(t, "t0=5 t1=6 d0:t3 d1:t2 k1=5 k1:t0", op(in2(t3, 0)))
	}
}

func TestOthersChangeNothing(t *testing.T) {
	next := len(blank()) + len(some()) + 1
	for _, a := range []end{in1(t0, 0), in1(t1, 1), in1(t1, 0), in1(t0, 2), in1(t1, 3)} {
		expectLeft(t, ofSome, out(a))
		expectLeft(t, ofSome, onIf(a, next))
	}
	expectLeft(t, ofSome, jump(next))
	expectBehind(t, ofSome, append(some(), onIf(in1(t0, 0), next-1), out(in1(t1, 3)), jump(next+2))...)
}

// TestNothingElseIsKnownOfTheSame: two instructions that give one number, other than by XConst and XMove, are not seen through.
func TestNothingElseIsKnownOfTheSame(t *testing.T) {
	low := func(dest end) line { return do(api.XLow, dest, in2(t2, 1), end{}) }
	expectBehind(t, "s0:t0 s1:t1", low(in1(t0, 0)), low(in1(t1, 1)))
	sum := func(dest end) line { return do(api.XOp+api.OpAdd, dest, in1(t0, 0), in1(t0, 0)) }
	expectBehind(t, "t0=0 s0=0 s0:t0 s1:t1", give(in1(t0, 0), 0), sum(in1(t1, 1)))
}
