package code

import (
	"slices"
	"testing"

	"loanbook/api"
	"loanbook/build"
	"loanbook/check"
)

// written has places, and their bytes, written out by hand.
type written struct {
	places api.Placed
	bytes  []byte
}

func noMoves() []written {
	return []written{
		{api.Placed{}, []byte{0, 0}},
		{api.Placed{Rows: []api.Row{}}, []byte{0, 0}},
		{placed(12), []byte{12, 0}},
		{placed(255), []byte{255, 0}},
		{placed(0, api.Row{}), []byte{0, 1, 0, 0, 0, 0, 0, 0, 0, 0}},
		{placed(0, api.Row{Before: []api.Move{}, After: []api.Move{}}), []byte{0, 1, 0, 0, 0, 0, 0, 0, 0, 0}},
		{placed(3, api.Row{Dest: single(15)}), []byte{3, 1, 1, 15, 0, 0, 0, 0, 0, 0}},
		{placed(3, api.Row{A: double(7)}), []byte{3, 1, 0, 0, 2, 7, 0, 0, 0, 0}},
		{placed(3, api.Row{B: single(4)}), []byte{3, 1, 0, 0, 0, 0, 1, 4, 0, 0}},
		{placed(9, api.Row{Dest: at(10, 20), A: at(30, 40), B: at(50, 60)}), []byte{9, 1, 10, 20, 30, 40, 50, 60, 0, 0}},
		{placed(1, api.Row{Dest: single(2)}, api.Row{}, api.Row{B: double(3)}), []byte{
			1, 3,
			1, 2, 0, 0, 0, 0, 0, 0,
			0, 0, 0, 0, 0, 0, 0, 0,
			0, 0, 0, 0, 2, 3, 0, 0,
		}},
	}
}

func someMoves() []written {
	back := move(slot(4), double(5))
	on := move(double(6), slot(7))
	return []written{
		{placed(0, api.Row{Before: []api.Move{{}}}), []byte{0, 1, 0, 0, 0, 0, 0, 0, 1, 0, 0, 0, 0, 0, 0, 0, 0, 0, 0}},
		{placed(0, api.Row{After: []api.Move{{}}}), []byte{0, 1, 0, 0, 0, 0, 0, 0, 0, 1, 0, 0, 0, 0, 0, 0, 0, 0, 0}},
		{placed(8, api.Row{A: single(9), Before: []api.Move{back}}), []byte{
			8, 1,
			0, 0, 1, 9, 0, 0,
			1, 3, 4, 2, 5, 0, 0, 0, 0, 0,
			0,
		}},
		{placed(8, api.Row{Dest: single(9), After: []api.Move{on}}), []byte{
			8, 1,
			1, 9, 0, 0, 0, 0,
			0,
			1, 2, 6, 3, 7, 0, 0, 0, 0, 0,
		}},
		{placed(8, api.Row{B: double(1), Before: []api.Move{back}, After: []api.Move{on}}), []byte{
			8, 1,
			0, 0, 0, 0, 2, 1,
			1, 3, 4, 2, 5, 0, 0, 0, 0, 0,
			1, 2, 6, 3, 7, 0, 0, 0, 0, 0,
		}},
		{placed(2, api.Row{Before: []api.Move{give(single(1), 258), on, back}, After: []api.Move{on, give(single(3), 7)}}), []byte{
			2, 1,
			0, 0, 0, 0, 0, 0,
			3, 1, 1, 0, 0, 1, 0, 0, 1, 2, 2, 6, 3, 7, 0, 0, 0, 0, 0, 3, 4, 2, 5, 0, 0, 0, 0, 0,
			2, 2, 6, 3, 7, 0, 0, 0, 0, 0, 1, 3, 0, 0, 1, 0, 0, 0, 7,
		}},
		{placed(5, api.Row{A: single(8), Before: []api.Move{give(single(8), max32)}}, api.Row{Dest: at(1, 2), A: at(3, 4), B: at(5, 6)}, api.Row{Dest: double(2), After: []api.Move{back}}), []byte{
			5, 3,
			0, 0, 1, 8, 0, 0, 1, 1, 8, 0, 0, 1, 255, 255, 255, 255, 0,
			1, 2, 3, 4, 5, 6, 0, 0,
			2, 2, 0, 0, 0, 0, 0, 1, 3, 4, 2, 5, 0, 0, 0, 0, 0,
		}},
	}
}

// ofNoProgram has kinds that there are not, and moves that may not be.
func ofNoProgram() []written {
	return []written{
		{placed(255, api.Row{Dest: at(255, 255), A: at(4, 99), B: at(0, 200)}), []byte{255, 1, 255, 255, 4, 99, 0, 200, 0, 0}},
		{placed(0, api.Row{Dest: slot(77)}, api.Row{A: slot(0)}), []byte{0, 2, 3, 77, 0, 0, 0, 0, 0, 0, 0, 0, 3, 0, 0, 0, 0, 0}},
		{placed(0, api.Row{Before: []api.Move{
			move(slot(1), slot(2)),
			move(single(1), double(2)),
			{To: double(1), From: at(9, 8), Const: true, N: 1},
			{To: at(4, 250), From: at(5, 251), N: 0x01020304},
		}}), []byte{
			0, 1,
			0, 0, 0, 0, 0, 0,
			4,
			3, 1, 3, 2, 0, 0, 0, 0, 0,
			1, 1, 2, 2, 0, 0, 0, 0, 0,
			2, 1, 9, 8, 1, 0, 0, 0, 1,
			4, 250, 5, 251, 0, 1, 2, 3, 4,
			0,
		}},
	}
}

func allWritten() []written { return slices.Concat(noMoves(), someMoves(), ofNoProgram()) }

func TestWritten(t *testing.T) {
	for _, w := range allWritten() {
		expectBytes(t, w.places, w.bytes)
		if !isRead(w.bytes) || !slices.Equal(bytesOf(w.places), w.bytes) {
			t.Errorf("the tests' own reckoning of %v is wrong", w)
		}
	}
}

// TestMovesNumbers: with Const, and without, where there may be none.
func TestMovesNumbers(t *testing.T) {
	for _, c := range []struct {
		n    uint32
		high []byte
	}{
		{0, []byte{0, 0, 0, 0}},
		{1, []byte{0, 0, 0, 1}},
		{255, []byte{0, 0, 0, 255}},
		{256, []byte{0, 0, 1, 0}},
		{65535, []byte{0, 0, 255, 255}},
		{65536, []byte{0, 1, 0, 0}},
		{16777216, []byte{1, 0, 0, 0}},
		{16909060, []byte{1, 2, 3, 4}},
		{1 << 31, []byte{128, 0, 0, 0}},
		{max32, []byte{255, 255, 255, 255}},
	} {
		for flag, constant := range []bool{false, true} {
			m := api.Move{To: single(5), From: slot(6), Const: constant, N: c.n}
			bytes := slices.Concat([]byte{1, 5, 3, 6, byte(flag)}, c.high)
			expectBytes(t, placed(0, api.Row{Before: []api.Move{m}}), slices.Concat([]byte{0, 1, 0, 0, 0, 0, 0, 0, 1}, bytes, []byte{0}))
			expectBytes(t, placed(0, api.Row{After: []api.Move{m}}), slices.Concat([]byte{0, 1, 0, 0, 0, 0, 0, 0, 0, 1}, bytes))
		}
	}
}

// TestBuilt: the program's five temporaries are all needed at once, so that some are in slots where there are few registers.
func TestBuilt(t *testing.T) {
	p := api.Prog{Wide: []bool{false, false, false, true, true}, Code: []api.Ins{
		{Op: api.XIn, Dest: 0}, {Op: api.XIn, Dest: 1}, {Op: api.XConst, Dest: 2, N: max32},
		{Op: api.XPair, Dest: 3, A: 0, B: 1}, {Op: api.XPair, Dest: 4, A: 1, B: 2},
		{Op: api.XWide + api.OpAdd, Dest: 3, A: 3, B: 4}, {Op: api.XOp + api.OpSub, Dest: 0, A: 0, B: 1},
		{Op: api.XOut, A: 0}, {Op: api.XOut, A: 1}, {Op: api.XOut, A: 2},
		{Op: api.XLow, Dest: 0, A: 3}, {Op: api.XHigh, Dest: 1, A: 4}, {Op: api.XOut, A: 0},
		{Op: api.XIf, A: 1, C: 15}, {Op: api.XJump, C: 0}, {Op: api.XHalt},
	}}
	slots := 0
	for singles := 4; singles <= api.MaxSingles; singles += 2 {
		target := api.Target{Singles: singles}
		l, e := build.Build(p, target)
		if e != api.OK {
			t.Fatalf("Build(%v, %d): %d", p, singles, e)
		}
		slots = max(slots, l.Slots)
		b := bytesOf(l)
		expectBytes(t, l, b)
		if got, _ := Get(b); !check.Takes(p, target, got) {
			t.Errorf("%v is not taken, once it is read from bytes", l)
		}
	}
	if slots == 0 {
		t.Error("no slots were met")
	}
}
