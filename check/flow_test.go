package check

import (
	"slices"
	"testing"

	"loanbook/api"
)

// from lays lines behind those of blank, and leads them to each other: their C counts from the first one of them on.
func from(lines ...line) []line {
	first := len(blank())
	for k := range lines {
		if op := lines[k].Op; op == api.XJump || op == api.XIf {
			lines[k].C += first
		}
	}
	return slices.Concat(blank(), lines)
}

// expectFlow has, of each of the lines, the facts ahead of it.
func expectFlow(t *testing.T, lines []line, want ...string) {
	t.Helper()
	if len(want) != len(lines) {
		t.Fatalf("%d texts of %d lines", len(want), len(lines))
	}
	for k := range want {
		expectAhead(t, len(blank())+k, want[k], from(slices.Clone(lines)...)...)
	}
}

// TestWaysMeet: the facts that both ways have stay.
func TestWaysMeet(t *testing.T) {
	expectFlow(t, []line{
		in(in1(t0, 0)),
		onIf(in1(t0, 0), 4),
		in(in1(t1, 2)).after(move(slot(0), single(0))),
		jump(6),
		in(in1(t1, 3)).after(move(slot(1), single(0)), move(single(2), single(3))),
		idle(),
		out(in1(t1, 2)),
	},
		"", "s0:t0", "s0:t0", "s0:t0 s2:t1 k0:t0", "s0:t0", "s0:t0 s2:t1 s3:t1 k1:t0", "s0:t0 s2:t1")
	// Other numbers of one place, and of one temporary; the same number.
	expectFlow(t, []line{
		onIf(in1(t0, 0), 4),
		give(in1(t0, 0), 5),
		give(in1(t1, 1), 6),
		jump(6),
		give(in1(t0, 0), 7),
		give(in1(t1, 1), 6),
		halt(),
	},
		"", "", "t0=5 s0=5 s0:t0", "t0=5 t1=6 s0=5 s0:t0 s1=6 s1:t1", "", "t0=7 s0=7 s0:t0", "t1=6 s0:t0 s1=6 s1:t1")
	// One temporary in two places, two temporaries in one place.
	expectFlow(t, []line{
		onIf(in1(t0, 0), 4),
		in(in1(t0, 1)),
		in(in1(t1, 2)),
		jump(6),
		in(in1(t0, 2)),
		in(in1(t1, 1)),
		halt(),
	},
		"", "", "s1:t0", "s1:t0 s2:t1", "", "s2:t0", "")
}

// TestIfBothWays: an if leads both ways, whatever is known of its A; also where both are one.
func TestIfBothWays(t *testing.T) {
	for _, n := range []uint32{0, 1} {
		ahead := []string{"", "t0=0 s0=0 s0:t0", "t0=0 s0=0 s0:t0", "s0:t0"}
		if n == 1 {
			ahead = []string{"", "t0=1 s0=1 s0:t0", "t0=1 s0=1 s0:t0", "s0:t0"}
		}
		expectFlow(t, []line{give(in1(t0, 0), n), onIf(in1(t0, 0), 3), in(in1(t0, 0)), halt()}, ahead...)
	}
	expectFlow(t, []line{in(in1(t0, 0)), onIf(in1(t0, 0), 2), halt()}, "", "s0:t0", "s0:t0")
	// What is moved ahead of it comes along both ways.
	expectFlow(t, []line{in(in1(t0, 0)), onIf(in1(t0, 0), 3).before(move(slot(0), single(0))), halt(), halt()}, "", "s0:t0", "s0:t0 k0:t0", "s0:t0 k0:t0")
}

// TestIfSharesNothing: what goes on the one way is not to be seen on the other one.
func TestIfSharesNothing(t *testing.T) {
	expectFlow(t, []line{
		in(in1(t0, 0)), in(in1(t1, 1)),
		onIf(in1(t0, 0), 5),
		in(in1(t0, 0)).after(constant(1, 77)),
		onIf(in1(t0, 0), 3),
		halt(),
	},
		"", "s0:t0", "s0:t0 s1:t1", "s0:t0", "s0:t0", "s0:t0")
	expectFlow(t, []line{
		in(in1(t0, 0)), in(in1(t1, 1)),
		onIf(in1(t0, 0), 4),
		in(in1(t0, 0)).after(constant(1, 77)),
		halt(),
	},
		"", "s0:t0", "s0:t0 s1:t1", "s0:t0 s1:t1", "s0:t0")
	expectFlow(t, []line{
		in(in1(t0, 0)), in(in1(t1, 1)),
		onIf(in1(t0, 0), 5),
		in(in1(t0, 0)).after(constant(1, 77)),
		jump(3),
		halt(),
	},
		"", "s0:t0", "s0:t0 s1:t1", "s0:t0", "s0:t0", "s0:t0 s1:t1")
}

// TestLoop: what the way back leaves as it is stays.
func TestLoop(t *testing.T) {
	expectFlow(t, []line{
		in(in1(t0, 0)),
		give(in1(t1, 1), 5).after(move(slot(0), single(1))),
		out(in1(t0, 0)).before(move(slot(1), single(0))),
		give(in1(t1, 1), 6),
		onIf(in1(t1, 1), 2),
		halt(),
	},
		"", "s0:t0",
		"s0:t0 s1:t1 k0=5",
		"s0:t0 s1:t1 k0=5 k1:t0",
		"t1=6 s0:t0 s1=6 s1:t1 k0=5 k1:t0",
		"t1=6 s0:t0 s1=6 s1:t1 k0=5 k1:t0")
	// The way back takes something away that a place got ahead of the loop, and gives it another one.
	expectFlow(t, []line{
		in(in1(t0, 0)).after(move(single(1), single(0)), move(single(2), single(0))),
		out(in1(t0, 1)),
		onIf(in1(t0, 0), 1).before(constant(2, 77)),
		halt(),
	},
		"", "s0:t0 s1:t0", "s0:t0 s1:t0", "s0:t0 s1:t0")
}

// TestLoopOfTemporaries: the way back takes away what is known of a temporary alone, and that goes on against the order of the lines.
func TestLoopOfTemporaries(t *testing.T) {
	expectFlow(t, []line{
		give(in1(t0, 0), 5).after(constant(0, 77)),
		jump(5),
		jump(7),
		jump(2),
		jump(3),
		idle(),
		jump(4),
		in(in1(t0, 0)).after(constant(0, 77)),
		jump(5),
	},
		"", "t0=5", "", "", "", "", "", "", "")
}

// TestLoopTakesSeveralRounds: each round moves on by one place what the one ahead of it lost.
func TestLoopTakesSeveralRounds(t *testing.T) {
	all := []api.Move{move(single(1), single(0)), move(single(2), single(0)), move(single(3), single(0)), move(slot(0), single(0)), move(slot(1), single(0))}
	shift := []api.Move{move(slot(1), single(3)), move(single(3), slot(0)), move(slot(0), single(2)), move(single(2), single(1)), move(single(1), single(0))}
	expectFlow(t, []line{
		in(in1(t0, 0)).after(all...),
		out(in1(t0, 0)).before(shift...),
		jump(1).before(constant(0, 77)),
	},
		"", "", "")
	expectFlow(t, []line{
		in(in1(t0, 0)).after(all...),
		out(in1(t0, 0)).before(shift...),
		jump(1),
	},
		"", "s0:t0 s1:t0 s2:t0 s3:t0 k0:t0 k1:t0", "s0:t0 s1:t0 s2:t0 s3:t0 k0:t0 k1:t0")
}

// TestLoopToTheFirst: what is ahead of the first instruction is at the beginning, and behind what leads back to it.
func TestLoopToTheFirst(t *testing.T) {
	// That s3 has t0 is so by the one and by the other.
	lines := []line{out(in1(t0, 3)), in(in1(t0, 3)), jump(0)}
	for at := range lines {
		expectAhead(t, at, "t1=0 s0=0 s0:t1 s1=0 s1:t1 s2=0 s2:t1 s3:t0 d0:t2 d0:t3 k0=0 k0:t1 k0:t2 k0:t3 k1=0 k1:t1 k1:t2 k1:t3", lines...)
	}
	// What the way back alone has is not so ahead of the first one: t0 is 5, s3 is 5.
	lines[1] = give(in1(t0, 3), 5)
	expectAhead(t, 0, "t1=0 s0=0 s0:t1 s1=0 s1:t1 s2=0 s2:t1 s3:t0 d0:t2 d0:t3 k0=0 k0:t1 k0:t2 k0:t3 k1=0 k1:t1 k1:t2 k1:t3", lines...)
	expectAhead(t, 2, "t0=5 t1=0 s0=0 s0:t1 s1=0 s1:t1 s2=0 s2:t1 s3=5 s3:t0 d0:t2 d0:t3 k0=0 k0:t1 k0:t2 k0:t3 k1=0 k1:t1 k1:t2 k1:t3", lines...)
	// A way back from the first one to itself.
	expectAhead(t, 0, "t0=0 t1=0 s0=0 s0:t0 s0:t1 s1=0 s1:t0 s1:t1 s2=0 s2:t0 s2:t1 s3=0 s3:t0 s3:t1 d0:t2 d0:t3 d1:t2 d1:t3 "+
		"k0=0 k0:t0 k0:t1 k0:t2 k0:t3 k1=0 k1:t0 k1:t1 k1:t2 k1:t3", jump(0))
	expectAhead(t, 0, "t0=0 t1=0 s0=0 s0:t0 s0:t1 s1=0 s1:t0 s1:t1 s2=0 s2:t0 s2:t1 d0:t2 d0:t3 "+
		"k0=0 k0:t0 k0:t1 k0:t2 k0:t3 k1=0 k1:t0 k1:t1 k1:t2 k1:t3", jump(0).before(constant(3, 77)))
}

func TestNoWayLeads(t *testing.T) {
	expectFlow(t, []line{in(in1(t0, 0)), halt(), give(in1(t1, 1), 5), halt()}, "", "s0:t0", "", "")
	expectFlow(t, []line{in(in1(t0, 0)), jump(3), give(in1(t1, 1), 5), halt()}, "", "s0:t0", "", "s0:t0")
	// To one that leads to itself, and to two that lead to each other, no way leads for that.
	expectFlow(t, []line{in(in1(t0, 0)), jump(3), jump(2), halt(), give(in1(t1, 1), 5), jump(4)}, "", "s0:t0", "", "s0:t0", "", "")
	// What is ahead of one to which no way leads is no beginning, though it is where code begins anew.
	expectAhead(t, 1, "", halt(), halt())
}

// TestComingFromWhereNoWayLeads: no run comes from there, so that takes nothing away where a way leads.
func TestComingFromWhereNoWayLeads(t *testing.T) {
	expectFlow(t, []line{in(in1(t0, 0)), jump(4), in(in1(t0, 1)), in(in1(t1, 0)), out(in1(t0, 0))}, "", "s0:t0", "", "", "s0:t0")
	expectFlow(t, []line{in(in1(t0, 0)), out(in1(t0, 0)), halt(), in(in1(t0, 1)).before(constant(0, 77)), jump(1)}, "", "s0:t0", "s0:t0", "", "")
	expectAhead(t, 0, outset(api.Prog{Wide: []bool{false, false, true, true}}, singles, slots), halt(), in(in1(t0, 0)), jump(0))
}

// TestBehindTheLast: one that leads behind the last one leads nowhere.
func TestBehindTheLast(t *testing.T) {
	expectFlow(t, []line{in(in1(t0, 0))}, "")
	expectFlow(t, []line{in(in1(t0, 0)), in(in1(t1, 1)).after(constant(0, 77))}, "", "s0:t0")
	expectFlow(t, []line{in(in1(t0, 0)), onIf(in1(t0, 0), 1)}, "", "s0:t0")
	expectFlow(t, []line{in(in1(t0, 0)), halt()}, "", "s0:t0")
}

// TestHaltLeadsNowhere: what is moved ahead of it is known nowhere.
func TestHaltLeadsNowhere(t *testing.T) {
	expectFlow(t, []line{
		in(in1(t0, 0)),
		onIf(in1(t0, 0), 3),
		halt().before(constant(0, 77)),
		out(in1(t0, 0)),
	},
		"", "s0:t0", "s0:t0", "s0:t0")
}
