package check

import (
	"testing"

	"loanbook/api"
)

func TestConstMoves(t *testing.T) {
	five := []line{give(in1(t0, 0), 5)}
	expectMoved(t, "t0=5 s0=5 s0:t0 s3=5 s3:t0", five, constant(3, 5))
	expectMoved(t, "t0=5 s0=5 s0:t0", five, constant(3, 6))
	expectMoved(t, "t0=5 s0=5 s0:t0 s3=0", five, constant(3, 0))
	expectMoved(t, "t0=5 s0=5 s0:t0", five, constant(0, 5))
	expectMoved(t, "t0=5", five, constant(0, 6))
	expectMoved(t, "t0=5 s0=0", five, constant(0, 0))
	expectMoved(t, "s3=0", nil, constant(3, 0))
	expectMoved(t, "", nil, constant(3, 5))
	zero := []line{give(in1(t0, 0), 0), give(in1(t1, 1), max32)}
	expectMoved(t, "t0=0 t1=4294967295 s0=0 s0:t0 s1=4294967295 s1:t1 s2=0 s2:t0", zero, constant(2, 0))
	expectMoved(t, "t0=0 t1=4294967295 s0=4294967295 s0:t1 s1=4294967295 s1:t1", zero, constant(0, max32))
	// Each temporary that is the number, also where no place has it any more.
	both := []line{give(in1(t0, 0), 5), give(in1(t1, 1), 5), idle().after(constant(0, 77), constant(1, 77))}
	expectMoved(t, "t0=5 t1=5", both)
	expectMoved(t, "t0=5 t1=5 s2=5 s2:t0 s2:t1", both, constant(2, 5))
	// A number of the program that no temporary is.
	lost := []line{give(in1(t0, 0), 5), in(in1(t0, 0))}
	expectMoved(t, "s0:t0 s2=5", lost, constant(2, 5))
	expectMoved(t, "s0=5", lost, constant(0, 5))
}

// wide has t2 in d0.
func wide() []line { return []line{pair(in2(t2, 0), in1(t0, 0), in1(t0, 0))} }

// halves has t0 in s2, and t1 in s3.
func halves() []line { return []line{in(in1(t0, 2)), in(in1(t1, 3))} }

// TestConstMovesOverlap: a double register has nothing any more once one of its halves has changed, but the other half stays.
func TestConstMovesOverlap(t *testing.T) {
	expectMoved(t, "d0:t2", wide(), constant(2, 77))
	expectMoved(t, "", wide(), constant(0, 77))
	expectMoved(t, "", wide(), constant(1, 77))
	expectMoved(t, "s1=0", wide(), constant(1, 0))
	expectMoved(t, "s2:t0", halves(), constant(3, 77))
	expectMoved(t, "s3:t1", halves(), constant(2, 77))
}

func TestMovesBetweenSingles(t *testing.T) {
	expectMoved(t, "s0:t0 s2:t0 s3:t1", halves(), move(single(0), single(2)))
	expectMoved(t, "s2:t1 s3:t1", halves(), move(single(2), single(3)))
	expectMoved(t, "s2:t0 s3:t0", halves(), move(single(3), single(2)))
	expectMoved(t, "s3:t1", halves(), move(single(2), single(0)))
	expectMoved(t, "t0=5 s1=5 s1:t0 s2=5 s2:t0", []line{give(in1(t0, 1), 5)}, move(single(2), single(1)))
	// A number without a temporary, and a temporary without a number.
	expectMoved(t, "s1=5 s2:t0 s3=5", []line{give(in1(t0, 1), 5), in(in1(t0, 2))}, move(single(3), single(1)))
	expectMoved(t, "s1=5 s2:t0 s3:t0", []line{give(in1(t0, 1), 5), in(in1(t0, 2))}, move(single(3), single(2)))
	expectMoved(t, "d0:t2", wide(), move(single(2), single(0)))
	expectMoved(t, "", wide(), move(single(0), single(2)))
	expectMoved(t, "", wide(), move(single(1), single(0)))
	// Two temporaries in one place.
	expectMoved(t, "s0:t0 s0:t1 s1:t0 s1:t1 s3:t0 s3:t1", []line{in(in1(t0, 3)), copied(in1(t1, 0), in1(t0, 3))}, move(single(1), single(0)))
}

func TestMovesBetweenDoubles(t *testing.T) {
	expectMoved(t, "d0:t2 d1:t2", wide(), move(double(1), double(0)))
	expectMoved(t, "", wide(), move(double(0), double(1)))
	// What is in the single registers of To goes, and is not known of those that From is.
	expectMoved(t, "d0:t2 d1:t2", append(wide(), halves()...), move(double(1), double(0)))
	expectMoved(t, "s2:t0 s3:t1", append(wide(), halves()...), move(double(0), double(1)))
	zeros := []line{idle().after(constant(0, 0), constant(1, 0))}
	expectMoved(t, "s0=0 s1=0", zeros, move(double(1), double(0)))
	expectMoved(t, "", zeros, move(double(0), double(1)))
}

func TestMovesToSlots(t *testing.T) {
	expectMoved(t, "s2:t0 s3:t1 k1:t0", halves(), move(slot(1), single(2)))
	expectMoved(t, "s2:t0 s3:t1 k0:t1", halves(), move(slot(0), single(3)))
	expectMoved(t, "t0=5 s1=5 s1:t0 k0=5 k0:t0", []line{give(in1(t0, 1), 5)}, move(slot(0), single(1)))
	expectMoved(t, "d0:t2 k1:t2", wide(), move(slot(1), double(0)))
	// A double register is no number, and its halves' temporaries are not its own.
	expectMoved(t, "s2:t0 s3:t1", halves(), move(slot(1), double(1)))
	expectMoved(t, "s0=0 s1=0", []line{idle().after(constant(0, 0), constant(1, 0))}, move(slot(0), double(0)))
	// What the slot had goes; the other slot stays.
	full := append(halves(), idle().after(move(slot(0), single(2)), move(slot(1), single(3))))
	expectMoved(t, "s2:t0 s3:t1 k0:t1 k1:t1", full, move(slot(0), single(3)))
	expectMoved(t, "s2:t0 s3:t1 k0:t0", full, move(slot(1), single(0)))
	expectMoved(t, "s2:t0 s3:t1 k1:t1", full, move(slot(0), double(0)))
}

func TestMovesFromSlots(t *testing.T) {
	narrow := append(halves(), idle().after(move(slot(0), single(2)), move(double(1), double(0))))
	expectMoved(t, "k0:t0", narrow)
	expectMoved(t, "s3:t0 k0:t0", narrow, move(single(3), slot(0)))
	expectMoved(t, "k0:t0", narrow, move(single(3), slot(1)))
	number := []line{give(in1(t0, 1), 5), in(in1(t0, 2)), idle().after(move(slot(1), single(1)), constant(1, 77))}
	expectMoved(t, "s0=5 s2:t0 k1=5", number, move(single(0), slot(1)))
	double2 := append(wide(), idle().after(move(slot(1), double(0)), constant(0, 77)))
	expectMoved(t, "d1:t2 k1:t2", double2, move(double(1), slot(1)))
	expectMoved(t, "d0:t2 k1:t2", double2, move(double(0), slot(1)))
	// Whatever had been in To goes.
	expectMoved(t, "s3:t1 k1:t1", append(halves(), idle().after(move(slot(1), single(3)))), move(single(2), slot(0)))
	expectMoved(t, "k1:t1", append(halves(), idle().after(move(slot(1), single(3)))), move(double(1), slot(1)))
	expectMoved(t, "s2:t0 k1:t1", append(halves(), idle().after(move(slot(1), single(3)))), move(single(3), slot(0)))
}

// TestMovesAsFarAsSuchAFactMayBe: a slot has a wide temporary, a narrow one, or is a number; a register of the other width gets nothing by that.
func TestMovesAsFarAsSuchAFactMayBe(t *testing.T) {
	held := append(wide(), idle().after(move(slot(1), double(0))))
	expectMoved(t, "d0:t2 k1:t2", held, move(single(2), slot(1)))
	expectMoved(t, "k1:t2", held, move(single(0), slot(1)))
	narrow := append(halves(), idle().after(move(slot(0), single(2))))
	expectMoved(t, "s2:t0 s3:t1 k0:t0", narrow, move(double(0), slot(0)))
	expectMoved(t, "k0:t0", narrow, move(double(1), slot(0)))
	five := []line{give(in1(t0, 3), 5), idle().after(move(slot(0), single(3)))}
	expectMoved(t, "t0=5 s3=5 s3:t0 k0=5 k0:t0", five, move(double(0), slot(0)))
	// From the beginning on, a slot has all temporaries, and is 0.
	const rest = " k0=0 k0:t0 k0:t1 k0:t2 k0:t3 k1=0 k1:t0 k1:t1 k1:t2 k1:t3"
	const lower = "t0=0 t1=0 s0=0 s0:t0 s0:t1 s1=0 s1:t0 s1:t1 s2=0 s2:t0 s2:t1 s3=0 s3:t0 s3:t1"
	expectAhead(t, 1, lower+" d1:t2 d1:t3"+rest, idle().before(constant(0, 77), move(single(0), slot(0))), halt())
	const upper = "t0=0 t1=0 s2=0 s2:t0 s2:t1 s3=0 s3:t0 s3:t1 d0:t2 d0:t3 d1:t2 d1:t3"
	expectAhead(t, 1, upper+rest, idle().before(constant(0, 77), move(double(0), slot(0))), halt())
	expectAhead(t, 1, upper+" k0:t2 k0:t3 k1=0 k1:t0 k1:t1 k1:t2 k1:t3", idle().before(move(double(0), double(1)), move(slot(0), double(0))), halt())
	expectAhead(t, 1, lower+" d0:t2 d0:t3 d1:t2 d1:t3 k0=0 k0:t0 k0:t1 k1=0 k1:t0 k1:t1 k1:t2 k1:t3", idle().before(move(slot(0), single(0))), halt())
}

// TestMovesToThemselves: the place keeps what it has, but what overlaps it is not known any more.
func TestMovesToThemselves(t *testing.T) {
	expectMoved(t, "s2:t0 s3:t1", halves(), move(single(2), single(2)))
	expectMoved(t, "d0:t2", wide(), move(double(0), double(0)))
	expectMoved(t, "d0:t2", wide(), move(single(3), single(3)))
	expectMoved(t, "", wide(), move(single(0), single(0)))
	expectMoved(t, "", halves(), move(double(1), double(1)))
	expectMoved(t, "s2:t0 s3:t1", halves(), move(double(0), double(0)))
	const slots = " k0=0 k0:t0 k0:t1 k0:t2 k0:t3 k1=0 k1:t0 k1:t1 k1:t2 k1:t3"
	expectAhead(t, 1, "t0=0 t1=0 s0=0 s0:t0 s0:t1 s1=0 s1:t0 s1:t1 s2=0 s2:t0 s2:t1 s3=0 s3:t0 s3:t1 d0:t2 d0:t3"+slots,
		idle().before(move(single(3), single(3))), halt())
	expectAhead(t, 1, "t0=0 t1=0 s0=0 s0:t0 s0:t1 s1=0 s1:t0 s1:t1 d0:t2 d0:t3 d1:t2 d1:t3"+slots,
		idle().before(move(double(1), double(1))), halt())
}

// TestMovesInOrder has moves that take what another one gave, or that give what another one took.
func TestMovesInOrder(t *testing.T) {
	expectMoved(t, "s0:t0 s1:t0 s2:t0 s3:t1", halves(), move(single(0), single(2)), move(single(1), single(0)))
	expectMoved(t, "s0:t0 s2:t0 s3:t1", halves(), move(single(1), single(0)), move(single(0), single(2)))
	expectMoved(t, "s0:t0 s2:t1 s3:t0", halves(), move(single(0), single(2)), move(single(2), single(3)), move(single(3), single(0)))
	expectMoved(t, "s2:t1 s3:t0 k0:t0", halves(), move(slot(0), single(2)), move(single(2), single(3)), move(single(3), slot(0)))
	expectMoved(t, "d1:t2 k1:t2", wide(), move(slot(1), double(0)), constant(0, 77), move(double(1), slot(1)))
	expectMoved(t, "", wide(), constant(0, 77), move(slot(1), double(0)), move(double(1), slot(1)))
	expectMoved(t, "t0=5 s0=5 s0:t0 s1=0 s2=0 k0=5 k0:t0", []line{give(in1(t0, 3), 5)},
		move(single(0), single(3)), move(slot(0), single(0)), constant(3, 0), move(single(1), single(3)), move(single(2), single(3)), constant(3, 77))
	five := []line{give(in1(t0, 0), 5)}
	expectMoved(t, "t0=5 s0=5 s0:t0", five, constant(0, 0), constant(0, 5))
	expectMoved(t, "t0=5 s0=0", five, constant(0, 5), constant(0, 0))
}

// TestBeforeAndAfter: Before, the instruction, After, in this order.
func TestBeforeAndAfter(t *testing.T) {
	expectBehind(t, "s0:t0 k1:t0", in(in1(t0, 0)), in(in1(t0, 0)).before(move(slot(0), single(0))).after(move(slot(1), single(0))))
	expectBehind(t, "s0:t0 k0:t1 k1:t0", in(in1(t1, 0)), in(in1(t0, 0)).before(move(slot(0), single(0))).after(move(slot(1), single(0))))
	expectBehind(t, "s0:t0 s1:t0 k0:t1", in(in1(t1, 0)), idle().after(move(slot(0), single(0))), in(in1(t0, 0)).after(move(single(1), single(0))))
	expectBehind(t, "t0=5 s0=5 s0:t0 s1=5 s1:t0 s2=5 s2:t0", give(in1(t0, 0), 5).before(constant(1, 5)).after(constant(2, 5)))
	// A Const move ahead of the instruction by which its number is that of a temporary: the place is the number by then.
	expectBehind(t, "t0=0 s0=0 s0:t0 s2:t1", give(in1(t0, 0), 0).before(constant(2, 0), constant(3, 0)).after(constant(3, 77)), in(in1(t1, 2)))
	// Its number may be one that the temporary was, and is not any more.
	expectBehind(t, "t0=0 s0=0 s0:t0 s1=5 s2=5", give(in1(t0, 0), 5), give(in1(t0, 0), 0).before(constant(1, 5)).after(constant(2, 5)))
}

// TestMostMoves has as many as there may be, ahead of an instruction and behind it.
func TestMostMoves(t *testing.T) {
	round := []api.Move{move(slot(0), single(0)), move(single(1), slot(0)), move(slot(1), single(1)), move(single(2), slot(1)), move(single(3), single(2)), constant(0, 77)}
	expectMoved(t, "s1:t0 s2:t0 s3:t0 k0:t0 k1:t0", []line{in(in1(t0, 0))}, round...)
	expectBehind(t, "s1:t1 s2:t1 s3:t1 k0:t1 k1:t1", in(in1(t0, 0)), in(in1(t1, 0)).before(round...).after(round...))
}
