package check

import (
	"slices"
	"testing"

	"loanbook/api"
	"loanbook/done"
	"loanbook/run"
)

// shows tells whether the program in its places shows what it shows without them.
func shows(p api.Prog, singles int, l api.Placed, ins []uint32, steps int) bool {
	want, e := run.Run(p, ins, steps)
	got, f := done.Run(p, target(singles), l, ins, steps)
	return e == f && got.State == want.State && got.Steps == want.Steps && slices.Equal(got.Out, want.Out)
}

func allSteps() []int { return []int{-1, 0, 1, 2, 3, 7, 20, 200, api.MaxSteps, api.MaxSteps + 1} }

// expectSame asks of places that are taken whether they do what the program does, for several ins and steps.
func expectSame(t *testing.T, p api.Prog, singles int, l api.Placed, ins ...[]uint32) {
	t.Helper()
	if !Takes(p, target(singles), l) {
		t.Errorf("Takes(%v, %d, %v) = false, want true", p, singles, l)
	}
	for _, steps := range allSteps() {
		for _, list := range ins {
			if !shows(p, singles, l, list, steps) {
				t.Errorf("%v, %d, %v is taken, but shows something else than the program, with %v and %d steps", p, singles, l, list, steps)
			}
		}
	}
}

func someIns() [][]uint32 {
	return [][]uint32{nil, {0}, {1}, {7}, {max32, 3}, {3, 0, 9}, {2, 2, 2, 2}, {5, 1, 4, 1, 1 << 31, 6}, make([]uint32, api.MaxIns), make([]uint32, api.MaxIns+1)}
}

// written are lines that are taken: with moves of each kind, numbers instead of what was lost, and temporaries that share a place.
func written() map[string][]line {
	return map[string][]line{
		"counts down, by slots and numbers": {
			in(in1(t0, 0)),
			out(in1(t0, 0)).after(move(slot(0), single(0)), constant(0, 77)),
			give(in1(t1, 1), 1),
			do(api.XOp+api.OpSub, in1(t0, 0), in1(t0, 3), in1(t1, 2)).before(move(single(3), slot(0)), constant(2, 1)),
			onIf(in1(t0, 0), 1),
			halt(),
		},
		"a wide one by a slot, and its halves": {
			in(in1(t0, 1)),
			in(in1(t1, 0)),
			pair(in2(t2, 1), in1(t0, 1), in1(t1, 0)).after(move(slot(1), double(1)), constant(3, 77)),
			do(api.XHigh, in1(t0, 3), in2(t2, 0), end{}).before(move(double(0), slot(1))),
			out(in1(t0, 3)),
			do(api.XLow, in1(t0, 0), in2(t2, 0), end{}),
			out(in1(t0, 0)),
		},
		"wide ones are copied and added": {
			in(in1(t0, 0)),
			pair(in2(t2, 1), in1(t0, 0), in1(t0, 0)),
			copied(in2(t3, 0), in2(t2, 1)).after(move(slot(0), double(1)), constant(2, 77)),
			do(api.XWide+api.OpAdd, in2(t3, 1), in2(t2, 0), in2(t3, 0)),
			do(api.XHigh, in1(t1, 0), in2(t3, 1), end{}),
			out(in1(t1, 0)),
			do(api.XLow, in1(t1, 2), in2(t2, 0), end{}).before(move(double(0), slot(0))),
			out(in1(t1, 2)),
			jump(0),
		},
		"two that are one are in one place": {
			in(in1(t0, 2)),
			copied(in1(t1, 2), in1(t0, 2)),
			out(in1(t0, 2)),
			out(in1(t1, 2)),
			in(in1(t0, 3)),
			out(in1(t1, 2)),
			out(in1(t0, 3)),
		},
		"a number that both ways have": {
			in(in1(t1, 0)),
			onIf(in1(t1, 0), 4),
			give(in1(t0, 1), 5),
			jump(5),
			give(in1(t0, 3), 5),
			out(in1(t0, 2)).before(constant(2, 5)),
			copied(in1(t1, 0), in1(t0, 2)),
			in(in1(t0, 2)),
			out(in1(t1, 3)).before(constant(3, 5)),
		},
		"nothing but what is 0 at the beginning": {
			out(in1(t0, 3)),
			out(in1(t1, 3)),
			do(api.XHigh, in1(t0, 1), in2(t3, 0), end{}),
			out(in1(t0, 1)),
			out(in1(t1, 2)).before(constant(2, 0)),
		},
		"it does not matter what stands where no way leads": {
			in(in1(t0, 1)),
			jump(4),
			out(in1(t1, 1)).before(constant(1, 77)),
			in(in1(t0, 0)).after(constant(1, 77)),
			out(in1(t0, 1)),
		},
		"runs on": {
			in(in1(t0, 1)).after(move(slot(1), single(1))),
			out(in1(t0, 2)).before(move(single(2), slot(1))),
			onIf(in1(t0, 2), 0),
			jump(1),
		},
	}
}

func TestWrittenOnesDoTheSame(t *testing.T) {
	for name, lines := range written() {
		p, l := laid(lines...)
		expectSame(t, p, singles, l, someIns()...)
		if t.Failed() {
			t.Fatal(name)
		}
	}
}

// TestMoveMissing: without any one of its moves, nothing that is written is taken, or it does the same without it.
func TestMoveMissing(t *testing.T) {
	refused := 0
	for name, lines := range written() {
		for at := range lines {
			for k := range lines[at].Before {
				less := slices.Clone(lines)
				less[at].Before = slices.Delete(slices.Clone(lines[at].Before), k, k+1)
				p, l := laid(less...)
				if !Takes(p, target(singles), l) {
					refused++
					continue
				}
				expectSame(t, p, singles, l, someIns()...)
				if t.Failed() {
					t.Fatal(name)
				}
			}
		}
	}
	if refused < 5 {
		t.Errorf("only %d moves were missed", refused)
	}
}

// TestDrawnOnesDoTheSame draws places, some of which are taken; of those that are not, many show something else, so that what is taken is not so by chance.
func TestDrawnOnesDoTheSame(t *testing.T) {
	r := source(4)
	taken, refused, other := 0, 0, 0
	for range 12000 {
		p := r.program(2+r.below(api.MaxTemps-1), 1+r.below(14))
		singles := 4 + 2*r.below(7)
		l := r.careful(p, singles)
		if !Takes(p, target(singles), l) {
			t.Fatalf("Takes(%v, %d, %v) = false, want true", p, singles, l)
		}
		r.changed(p, singles, &l)
		takes := Takes(p, target(singles), l)
		same := true
		for range 3 {
			ins, steps := r.ins(), r.below(80)
			same = same && shows(p, singles, l, ins, steps)
			if takes && !same {
				t.Fatalf("%v, %d, %v is taken, but shows something else than the program, with %v and %d steps", p, singles, l, ins, steps)
			}
		}
		switch {
		case takes:
			taken++
		case same:
			refused++
		default:
			other++
		}
	}
	if taken < 3000 || refused < 1000 || other < 1000 {
		t.Errorf("what was tried is too much alike: %d taken, %d refused, and %d that show something else", taken, refused, other)
	}
}

// TestBlindOnesDoTheSame draws places without care, for programs so small that some are taken.
func TestBlindOnesDoTheSame(t *testing.T) {
	r := source(2)
	taken, outs := 0, 0
	for range 40000 {
		p := r.program(2, 2+r.below(4))
		l := r.placed(p, 4, r.below(2))
		if !Takes(p, target(4), l) {
			continue
		}
		taken++
		for range 3 {
			ins, steps := r.ins(), r.below(20)
			if !shows(p, 4, l, ins, steps) {
				t.Fatalf("%v, %v is taken, but shows something else than the program, with %v and %d steps", p, l, ins, steps)
			}
			s, _ := run.Run(p, ins, steps)
			outs += len(s.Out)
		}
	}
	if taken < 10000 || outs < 10000 {
		t.Errorf("what was tried is too much alike: %d taken, %d that came out", taken, outs)
	}
}
