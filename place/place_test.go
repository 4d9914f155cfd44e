package place

import (
	"math"
	"reflect"
	"slices"
	"testing"

	"loanbook/api"
)

// Temporaries of the programs below, two of each width.
const (
	n0 = 0
	w0 = 1
	n1 = 2
	w1 = 3
)

// The target and the slots of the places below, where nothing else is said: single registers 0 to 7, double ones 0 to 3, slots 0 to 4.
const (
	singles = 8
	slots   = 5
)

func temps() []bool { return []bool{false, true, false, true} }

// prog ends with a halt, so that whatever is given leads somewhere.
func prog(code ...api.Ins) api.Prog {
	return api.Prog{Wide: temps(), Code: append(code, api.Ins{Op: api.XHalt})}
}

// placed has the rows, and an empty one for prog's halt.
func placed(rows ...api.Row) api.Placed {
	return api.Placed{Slots: slots, Rows: append(rows, api.Row{})}
}

func expect(t *testing.T, p api.Prog, target int, l api.Placed, want bool, why string) {
	t.Helper()
	if got := May(p, api.Target{Singles: target}, l); got != want {
		t.Errorf("May(%v, %d, %v) = %v, want %v: %s", p, target, l, got, want, why)
	}
}

// good is an instruction with a row that it may have: what it has, in registers.
type good struct {
	i   api.Ins
	row api.Row
}

// goods has one, at least, of each op, with registers that are neither the first ones nor the same.
func goods() []good {
	list := []good{
		{api.Ins{Op: api.XConst, Dest: n1, N: 7}, api.Row{Dest: single(1)}},
		{api.Ins{Op: api.XMove, Dest: n1, A: n0}, api.Row{Dest: single(2), A: single(3)}},
		{api.Ins{Op: api.XMove, Dest: w1, A: w0}, api.Row{Dest: double(1), A: double(2)}},
		{api.Ins{Op: api.XIn, Dest: n1}, api.Row{Dest: single(7)}},
		{api.Ins{Op: api.XOut, A: n1}, api.Row{A: single(5)}},
		{api.Ins{Op: api.XPair, Dest: w1, A: n0, B: n1}, api.Row{Dest: double(3), A: single(1), B: single(2)}},
		{api.Ins{Op: api.XLow, Dest: n1, A: w0}, api.Row{Dest: single(4), A: double(1)}},
		{api.Ins{Op: api.XHigh, Dest: n0, A: w1}, api.Row{Dest: single(6), A: double(1)}},
		{api.Ins{Op: api.XJump, C: 1}, api.Row{}},
		{api.Ins{Op: api.XIf, A: n1, C: 1}, api.Row{A: single(3)}},
		{api.Ins{Op: api.XHalt}, api.Row{}},
	}
	for op := api.OpAdd; op <= api.OpLess; op++ {
		list = append(list, good{api.Ins{Op: api.XOp + op, Dest: n1, A: n0, B: n1}, api.Row{Dest: single(1), A: single(2), B: single(5)}})
	}
	for op := api.OpAdd; op <= api.OpXor; op++ {
		list = append(list, good{api.Ins{Op: api.XWide + op, Dest: w1, A: w0, B: w1}, api.Row{Dest: double(1), A: double(2), B: double(3)}})
	}
	return list
}

func (g good) expect(t *testing.T, want bool, why string) {
	t.Helper()
	expect(t, prog(g.i), singles, placed(g.row), want, why)
}

// fields points at Dest, A and B.
func (g *good) fields() [3]*api.Place { return [3]*api.Place{&g.row.Dest, &g.row.A, &g.row.B} }

func fieldName(f int) string { return []string{"Dest", "A", "B"}[f] }

func isBranch(op int) bool { return op == api.XJump || op == api.XIf || op == api.XHalt }

func TestGoodOnesMayBe(t *testing.T) {
	for _, g := range goods() {
		g.expect(t, true, "what the tests below start from")
	}
}

func TestTargets(t *testing.T) {
	p := prog(api.Ins{Op: api.XOut})
	// The registers 0 and 1 are there on every target.
	rows := []api.Row{{A: single(1)}, {}}
	numbers := append(farNumbers(), 1<<8+8, 1<<16+8, 1<<32+8, -8)
	for n := -20; n <= api.MaxSingles+20; n++ {
		numbers = append(numbers, n)
	}
	for _, n := range numbers {
		want := n%2 == 0 && n >= 4 && n <= api.MaxSingles
		expect(t, p, n, api.Placed{Rows: rows}, want, "that target")
	}
	for n, want := range map[int]bool{2: false, 3: false, 4: true, 5: false, 6: true, 14: true, 15: false, 16: true, 17: false, 18: false} {
		expect(t, p, n, api.Placed{Rows: rows}, want, "that target")
	}
}

// TestTargetIsAskedAlone: also where no row has a register.
func TestTargetIsAskedAlone(t *testing.T) {
	for n := -2; n <= api.MaxSingles+2; n++ {
		want := n%2 == 0 && n >= 4 && n <= api.MaxSingles
		expect(t, prog(), n, placed(), want, "that target")
	}
}

func TestSlots(t *testing.T) {
	for _, n := range append(farNumbers(), -12, -1, 0, 1, 2, 6, api.MaxSlots-1, api.MaxSlots, api.MaxSlots+1, api.MaxSlots+2, 1<<8, 1<<16, 1<<32) {
		l := api.Placed{Slots: n, Rows: []api.Row{{}}}
		expect(t, prog(), singles, l, n >= 0 && n <= 12, "as many slots as these")
	}
}

// edges are, with so many places of a kind, the numbers of such as are there, and of such as are not.
func edges(count int) map[int]bool {
	is := map[int]bool{-1: false, -2: false, count: false, count + 1: false, math.MinInt: false, math.MaxInt: false, 1 << 8: false, 1 << 16: false, 1 << 32: false}
	for n := range count {
		is[n] = true
	}
	return is
}

func TestEdgesOfFields(t *testing.T) {
	for n := 4; n <= api.MaxSingles; n += 2 {
		for at, is := range edges(n) {
			expect(t, prog(api.Ins{Op: api.XIn}), n, placed(api.Row{Dest: single(at)}), is, "a single register as Dest")
			expect(t, prog(api.Ins{Op: api.XOut}), n, placed(api.Row{A: single(at)}), is, "a single register as A")
			expect(t, prog(api.Ins{Op: api.XPair, Dest: w0}), n, placed(api.Row{Dest: double(0), A: single(0), B: single(at)}), is, "a single register as B")
		}
		for at, is := range edges(n / 2) {
			expect(t, prog(api.Ins{Op: api.XMove, Dest: w0, A: w0}), n, placed(api.Row{Dest: double(at), A: double(0)}), is, "a double register as Dest")
			expect(t, prog(api.Ins{Op: api.XLow, A: w0}), n, placed(api.Row{Dest: single(0), A: double(at)}), is, "a double register as A")
			expect(t, prog(api.Ins{Op: 41, Dest: w0, A: w0, B: w0}), n, placed(api.Row{Dest: double(0), A: double(0), B: double(at)}), is, "a double register as B")
		}
	}
}

// expectMove asks for the move ahead of an instruction, and behind it.
func expectMove(t *testing.T, target, count int, m api.Move, want bool, why string) {
	t.Helper()
	p := prog(api.Ins{Op: api.XIn})
	before := api.Row{Dest: single(0), Before: []api.Move{m}}
	after := api.Row{Dest: single(0), After: []api.Move{m}}
	expect(t, p, target, api.Placed{Slots: count, Rows: []api.Row{before, {}}}, want, why+", ahead")
	expect(t, p, target, api.Placed{Slots: count, Rows: []api.Row{after, {}}}, want, why+", behind")
}

func TestEdgesOfMoves(t *testing.T) {
	for n := 4; n <= api.MaxSingles; n += 2 {
		for at, is := range edges(n) {
			expectMove(t, n, 1, api.Move{To: single(at), From: single(1)}, is, "to a single register")
			expectMove(t, n, 1, api.Move{To: single(1), From: single(at)}, is, "from a single register")
			expectMove(t, n, 1, api.Move{To: single(at), From: slot(0)}, is, "to a single register from a slot")
			expectMove(t, n, 1, api.Move{To: slot(0), From: single(at)}, is, "from a single register to a slot")
			expectMove(t, n, 1, api.Move{To: single(at), Const: true, N: 9}, is, "a number to a single register")
		}
		for at, is := range edges(n / 2) {
			expectMove(t, n, 1, api.Move{To: double(at), From: double(1)}, is, "to a double register")
			expectMove(t, n, 1, api.Move{To: double(1), From: double(at)}, is, "from a double register")
			expectMove(t, n, 1, api.Move{To: double(at), From: slot(0)}, is, "to a double register from a slot")
			expectMove(t, n, 1, api.Move{To: slot(0), From: double(at)}, is, "from a double register to a slot")
		}
	}
}

func TestEdgesOfSlots(t *testing.T) {
	for count := 0; count <= api.MaxSlots; count++ {
		for at, is := range edges(count) {
			expectMove(t, 4, count, api.Move{To: slot(at), From: single(3)}, is, "to a slot from a single register")
			expectMove(t, 4, count, api.Move{To: single(3), From: slot(at)}, is, "from a slot to a single register")
			expectMove(t, 16, count, api.Move{To: slot(at), From: double(7)}, is, "to a slot from a double register")
			expectMove(t, 16, count, api.Move{To: double(7), From: slot(at)}, is, "from a slot to a double register")
		}
	}
}

func TestFieldsThatItHas(t *testing.T) {
	for _, g := range goods() {
		for f, field := range g.fields() {
			was := *field
			if was == (api.Place{}) {
				continue
			}
			name := fieldName(f)
			for n := range singles {
				*field = single(n)
				g.expect(t, was.Kind == api.KSingle, name+" is a single register")
			}
			for n := range singles / 2 {
				*field = double(n)
				g.expect(t, was.Kind == api.KDouble, name+" is a double register")
			}
			for n := range slots {
				*field = slot(n)
				g.expect(t, false, name+" is a slot")
			}
			*field = api.Place{}
			g.expect(t, false, name+" is empty")
			for _, kind := range noKinds() {
				*field = api.Place{Kind: kind, N: was.N}
				g.expect(t, false, name+" is of no kind")
			}
			*field = was
		}
	}
}

func TestFieldsThatItDoesNotHave(t *testing.T) {
	others := []api.Place{single(0), single(1), double(0), double(1), slot(0), slot(1), {N: 1}, {N: -1}, {N: math.MaxInt}, {N: math.MinInt}, single(99), double(-1)}
	for _, kind := range noKinds() {
		if kind != api.KNone {
			others = append(others, api.Place{Kind: kind}, api.Place{Kind: kind, N: 1})
		}
	}
	for _, g := range goods() {
		for f, field := range g.fields() {
			if *field != (api.Place{}) {
				continue
			}
			for _, l := range others {
				*field = l
				g.expect(t, false, "there is a place for "+fieldName(f)+", which it does not have")
			}
			*field = api.Place{}
			g.expect(t, true, "all is as it was")
		}
	}
}

// TestOverlappingFields: whether places overlap is not asked here.
func TestOverlappingFields(t *testing.T) {
	for _, c := range []good{
		{api.Ins{Op: 21, Dest: n0, A: n0, B: n1}, api.Row{Dest: single(3), A: single(3), B: single(3)}},
		{api.Ins{Op: 41, Dest: w0, A: w0, B: w1}, api.Row{Dest: double(3), A: double(3), B: double(3)}},
		{api.Ins{Op: api.XPair, Dest: w0, A: n0, B: n1}, api.Row{Dest: double(1), A: single(3), B: single(2)}},
		{api.Ins{Op: api.XLow, Dest: n0, A: w1}, api.Row{Dest: single(2), A: double(1)}},
		{api.Ins{Op: api.XMove, Dest: n0, A: n0}, api.Row{Dest: single(2), A: single(6)}},
	} {
		c.expect(t, true, "the places overlap, or one temporary is in two")
	}
}

// TestWidthIsThatOfTheTemporary: of XMove, only the program tells which registers it has.
func TestWidthIsThatOfTheTemporary(t *testing.T) {
	for d, dWide := range temps() {
		for a, aWide := range temps() {
			if dWide != aWide {
				continue
			}
			i := api.Ins{Op: api.XMove, Dest: d, A: a}
			good{i, api.Row{Dest: single(1), A: single(2)}}.expect(t, !dWide, "single registers")
			good{i, api.Row{Dest: double(1), A: double(2)}}.expect(t, dWide, "double registers")
			good{i, api.Row{Dest: double(1), A: single(2)}}.expect(t, false, "one of each")
			good{i, api.Row{Dest: single(1), A: double(2)}}.expect(t, false, "one of each")
		}
	}
}

func TestHowManyRows(t *testing.T) {
	for count := 1; count <= api.MaxCode; count++ {
		p := api.Prog{Wide: temps()}
		for range count {
			p.Code = append(p.Code, api.Ins{Op: api.XHalt})
		}
		for rows := range api.MaxCode + 3 {
			l := api.Placed{Slots: slots, Rows: make([]api.Row, rows)}
			expect(t, p, singles, l, rows == count, "as many rows as these")
		}
		expect(t, p, singles, api.Placed{Slots: slots}, false, "no rows")
	}
	expect(t, prog(), singles, api.Placed{Rows: make([]api.Row, 1<<16)}, false, "far too many rows")
}

func TestEachRowIsAsked(t *testing.T) {
	p := api.Prog{Wide: temps()}
	l := api.Placed{}
	for k := range api.MaxCode {
		p.Code = append(p.Code, api.Ins{Op: api.XOut, A: n1})
		l.Rows = append(l.Rows, api.Row{A: single(k % singles)})
	}
	expect(t, p, singles, l, true, "all are good")
	for k := range l.Rows {
		was := l.Rows[k]
		for _, wrong := range []api.Row{
			{A: single(singles)},
			{A: was.A, Dest: single(0)},
			{A: was.A, Before: []api.Move{{}}},
			{A: was.A, After: []api.Move{{}}},
		} {
			l.Rows[k] = wrong
			expect(t, p, singles, l, false, "one is not")
		}
		l.Rows[k] = was
	}
}

// TestRowsInOrder: each row is that of its own instruction.
func TestRowsInOrder(t *testing.T) {
	p := prog(api.Ins{Op: api.XIn, Dest: n1}, api.Ins{Op: api.XOut, A: n1})
	in, out := api.Row{Dest: single(1)}, api.Row{A: single(1)}
	expect(t, p, singles, placed(in, out), true, "in order")
	expect(t, p, singles, placed(out, in), false, "in another one")
	expect(t, p, singles, placed(in, in), false, "one twice")
}

func someMoves(count int) []api.Move {
	list := []api.Move{}
	for k := range count {
		list = append(list, api.Move{To: single(k % singles), From: slot(k % slots)})
	}
	return list
}

func TestHowManyMoves(t *testing.T) {
	for _, g := range goods() {
		for count := range api.MaxMoves + 4 {
			g.row.Before, g.row.After = someMoves(count), nil
			g.expect(t, count <= 6, "as many moves ahead as these")
			g.row.Before, g.row.After = nil, someMoves(count)
			g.expect(t, count == 0 || count <= 6 && !isBranch(g.i.Op), "as many moves behind as these")
			g.row.Before, g.row.After = someMoves(count), someMoves(count)
			g.expect(t, count == 0 || count <= 6 && !isBranch(g.i.Op), "as many moves ahead and behind as these")
		}
		g.row.Before, g.row.After = someMoves(1<<16), nil
		g.expect(t, false, "far too many moves ahead")
		g.row.Before, g.row.After = nil, someMoves(1<<16)
		g.expect(t, false, "far too many moves behind")
	}
}

// TestMovesOfAll: most of all rows, moves and places that there may be.
func TestMovesOfAll(t *testing.T) {
	p := api.Prog{Wide: make([]bool, api.MaxTemps)}
	l := api.Placed{Slots: api.MaxSlots}
	for k := range api.MaxCode {
		p.Code = append(p.Code, api.Ins{Op: api.XIn, Dest: k % api.MaxTemps})
		row := api.Row{Dest: single(k % api.MaxSingles)}
		for m := range api.MaxMoves {
			row.Before = append(row.Before, api.Move{To: single(api.MaxSingles - 1 - m), From: slot(api.MaxSlots - 1 - m)})
			row.After = append(row.After, api.Move{To: slot(api.MaxSlots - 1 - m), From: double(api.MaxSingles/2 - 1 - m)})
		}
		l.Rows = append(l.Rows, row)
	}
	expect(t, p, api.MaxSingles, l, true, "most of all")
	expect(t, p, api.MaxSingles-2, l, false, "a target with less")
	l.Slots--
	expect(t, p, api.MaxSingles, l, false, "a slot less")
}

func TestEachMoveIsAsked(t *testing.T) {
	for k := range api.MaxMoves {
		for _, wrong := range []api.Move{{}, {To: single(0)}, {To: slot(0), From: slot(1)}, {To: single(0), From: slot(slots)}, {To: single(0), From: single(1), N: 1}} {
			moves := someMoves(api.MaxMoves)
			moves[k] = wrong
			g := good{api.Ins{Op: api.XIn, Dest: n1}, api.Row{Dest: single(7), Before: moves}}
			g.expect(t, false, "a move ahead is wrong")
			g.row.Before, g.row.After = nil, moves
			g.expect(t, false, "a move behind is wrong")
			g.row.Before, g.row.After = someMoves(api.MaxMoves), moves
			g.expect(t, false, "a move behind is wrong")
		}
	}
}

// TestMovesOfEachInstruction: moves ahead are asked of all instructions, also of those that have none behind.
func TestMovesOfEachInstruction(t *testing.T) {
	for _, g := range goods() {
		g.row.Before = []api.Move{{To: slot(1), From: slot(2)}}
		g.expect(t, false, "a wrong move ahead")
		g.row.Before = []api.Move{{To: double(1), From: slot(2)}}
		g.expect(t, true, "a good move ahead")
		g.row.After = []api.Move{{To: slot(1), From: slot(2)}}
		g.expect(t, false, "a wrong move behind")
		g.row.After = []api.Move{{To: single(1), Const: true}}
		g.expect(t, !isBranch(g.i.Op), "a good move behind")
	}
}

func TestKindsOfMoves(t *testing.T) {
	may := map[[2]int]bool{
		{api.KSingle, api.KSingle}: true,
		{api.KDouble, api.KDouble}: true,
		{api.KSingle, api.KSlot}:   true,
		{api.KSlot, api.KSingle}:   true,
		{api.KDouble, api.KSlot}:   true,
		{api.KSlot, api.KDouble}:   true,
	}
	kinds := append(noKinds(), api.KSingle, api.KDouble, api.KSlot)
	for _, to := range kinds {
		for _, from := range kinds {
			for n := range 4 {
				m := api.Move{To: api.Place{Kind: to, N: n}, From: api.Place{Kind: from, N: n}}
				expectMove(t, singles, slots, m, may[[2]int{to, from}], "of the same number")
				m.From.N = 3 - n
				expectMove(t, singles, slots, m, may[[2]int{to, from}], "of another number")
			}
		}
	}
}

func TestMovesToWhereItIs(t *testing.T) {
	expectMove(t, singles, slots, api.Move{To: single(2), From: single(2)}, true, "a single register to itself")
	expectMove(t, singles, slots, api.Move{To: double(2), From: double(2)}, true, "a double register to itself")
	expectMove(t, singles, slots, api.Move{To: slot(2), From: slot(2)}, false, "a slot to itself")
	expectMove(t, singles, slots, api.Move{To: double(1), From: single(2)}, false, "to a double register from one that it has")
	expectMove(t, singles, slots, api.Move{To: single(3), From: double(1)}, false, "from a double register to one that it has")
}

func TestNumbersOfMoves(t *testing.T) {
	for _, m := range []api.Move{
		{To: single(1), From: single(2)},
		{To: double(1), From: double(2)},
		{To: single(1), From: slot(2)},
		{To: slot(1), From: single(2)},
		{To: double(1), From: slot(2)},
		{To: slot(1), From: double(2)},
	} {
		expectMove(t, singles, slots, m, true, "N is 0")
		for _, n := range []uint32{1, 2, 7, 1 << 8, 1 << 16, 1 << 31, math.MaxUint32} {
			m.N = n
			expectMove(t, singles, slots, m, false, "N is not 0")
		}
	}
}

func TestConst(t *testing.T) {
	froms := []api.Place{{}, {N: 1}, {N: -1}, single(0), single(1), double(0), double(1), slot(0), slot(1), {Kind: 4}, {Kind: -1}, single(-1), slot(slots)}
	kinds := append(noKinds(), api.KSingle, api.KDouble, api.KSlot)
	for _, n := range []uint32{0, 1, 2, 7, 1 << 8, 1 << 16, 1 << 31, math.MaxUint32} {
		for _, kind := range kinds {
			for _, from := range froms {
				m := api.Move{To: api.Place{Kind: kind, N: 1}, From: from, Const: true, N: n}
				expectMove(t, singles, slots, m, kind == api.KSingle && from == api.Place{}, "it is Const")
				m.To.N = 0
				expectMove(t, singles, slots, m, kind == api.KSingle && from == api.Place{}, "it is Const")
			}
			m := api.Move{To: api.Place{Kind: kind, N: 1}, N: n}
			expectMove(t, singles, slots, m, false, "From is empty, but it is not Const")
		}
	}
}

// TestMovesWithoutSlots: where there are no slots, moves between registers still may be.
func TestMovesWithoutSlots(t *testing.T) {
	expectMove(t, 4, 0, api.Move{To: single(3), From: single(0)}, true, "single registers")
	expectMove(t, 4, 0, api.Move{To: double(1), From: double(0)}, true, "double registers")
	expectMove(t, 4, 0, api.Move{To: single(3), Const: true, N: 5}, true, "a number")
	expectMove(t, 4, 0, api.Move{To: single(3), From: slot(0)}, false, "a slot")
	expectMove(t, 4, 0, api.Move{To: slot(0), From: single(3)}, false, "a slot")
}

// TestWrongPrograms: the rows are as the instructions would ask for, as far as there are such.
func TestWrongPrograms(t *testing.T) {
	out := api.Ins{Op: api.XOut, A: n1}
	row := api.Row{A: single(1)}
	most := slices.Repeat([]api.Ins{out}, api.MaxCode+1)
	for _, c := range []struct {
		p    api.Prog
		rows []api.Row
	}{
		{api.Prog{}, nil},
		{api.Prog{}, []api.Row{}},
		{api.Prog{}, []api.Row{{}}},
		{api.Prog{Wide: temps()}, nil},
		{api.Prog{Code: []api.Ins{out}}, []api.Row{row}},
		{api.Prog{Code: []api.Ins{{Op: api.XHalt}}}, []api.Row{{}}},
		{api.Prog{Wide: make([]bool, api.MaxTemps+1), Code: []api.Ins{out}}, []api.Row{row}},
		{api.Prog{Wide: temps(), Code: most}, slices.Repeat([]api.Row{row}, api.MaxCode+1)},
	} {
		expect(t, c.p, singles, api.Placed{Slots: slots, Rows: c.rows}, false, "the program may not be")
	}
	expect(t, api.Prog{Wide: temps(), Code: most[1:]}, singles, api.Placed{Slots: slots, Rows: slices.Repeat([]api.Row{row}, api.MaxCode)}, true, "it may be")
}

func TestWrongInstructions(t *testing.T) {
	rows := []api.Row{{}, {Dest: single(1)}, {A: single(1)}, {Dest: double(1)}, {Dest: single(1), A: single(1)}, {Dest: single(1), A: single(1), B: single(1)}, {Dest: double(1), A: double(1), B: double(1)}}
	for _, i := range []api.Ins{
		{},
		{Op: 11},
		{Op: -1},
		{Op: api.XOp},
		{Op: api.XWide},
		{Op: math.MinInt},
		{Op: math.MaxInt},
		{Op: api.XWide + api.OpLess, Dest: w0, A: w0, B: w0},
		{Op: api.XIn, Dest: w0},
		{Op: api.XIn, Dest: 4},
		{Op: api.XIn, Dest: -1},
		{Op: api.XIn, Dest: math.MaxInt},
		{Op: api.XOut, A: math.MinInt},
		{Op: api.XMove, Dest: n0, A: w0},
		{Op: api.XMove, Dest: w0, A: 4},
		{Op: api.XOp + api.OpAdd, B: w1},
		{Op: api.XJump, C: 2},
		{Op: api.XJump, C: -1},
		{Op: api.XHalt, Dest: 1},
		{Op: api.XHalt, N: 1},
	} {
		for _, row := range rows {
			expect(t, prog(i), singles, placed(row), false, "the program may not be")
		}
	}
}

// TestAllWrong: none of these makes a call that panics.
func TestAllWrong(t *testing.T) {
	far := api.Place{Kind: math.MaxInt, N: math.MinInt}
	move := api.Move{To: far, From: far, Const: true, N: math.MaxUint32}
	row := api.Row{Dest: far, A: far, B: far, Before: []api.Move{move}, After: []api.Move{move}}
	i := api.Ins{Op: math.MaxInt, Dest: math.MinInt, A: math.MaxInt, B: math.MinInt, C: math.MaxInt, N: math.MaxUint32}
	for _, p := range []api.Prog{{}, {Wide: temps()}, {Code: []api.Ins{i}}, {Wide: temps(), Code: []api.Ins{i}}, prog()} {
		for _, target := range []int{math.MinInt, -1, 0, 3, singles, math.MaxInt} {
			for _, count := range []int{math.MinInt, -1, 0, slots, math.MaxInt} {
				expect(t, p, target, api.Placed{Slots: count, Rows: []api.Row{row}}, false, "much is wrong")
				expect(t, p, target, api.Placed{Slots: count, Rows: []api.Row{row, row}}, false, "much is wrong")
				expect(t, p, target, api.Placed{Slots: count}, false, "there are no rows")
			}
		}
	}
}

// TestNothingIsChanged: more lies behind the lists' lengths, all of which would be wrong in them.
func TestNothingIsChanged(t *testing.T) {
	for _, g := range goods() {
		for count := range api.MaxMoves {
			p, l := behind(g, count)
			wasP, wasL := behind(g, count)
			first := May(p, api.Target{Singles: singles}, l)
			if want := count == 0 || !isBranch(g.i.Op); first != want {
				t.Errorf("May(%v, %v) = %v, want %v, whatever lies behind the lists", p, l, first, want)
			}
			again := May(p, api.Target{Singles: singles}, l)
			if first != again {
				t.Errorf("May(%v, %v) = %v, and then %v", p, l, first, again)
			}
			whole(&p, &l)
			whole(&wasP, &wasL)
			if !reflect.DeepEqual(p, wasP) || !reflect.DeepEqual(l, wasL) {
				t.Errorf("May changed what was handed in, or what lies behind it: %v, %v", p, l)
			}
		}
	}
}

// behind has the program and its places in lists behind which lies more, with so many moves ahead of the instruction and behind it.
func behind(g good, count int) (api.Prog, api.Placed) {
	wrong := api.Move{To: slot(7), From: slot(-1), N: 3}
	before := append(someMoves(count), wrong, wrong, wrong, wrong, wrong, wrong, wrong)
	after := append(someMoves(count), wrong, wrong, wrong, wrong, wrong, wrong, wrong)
	g.row.Before, g.row.After = before[:count], after[:count]
	p, l := prog(g.i), placed(g.row)
	wide := append(p.Wide, true)
	code := append(p.Code, api.Ins{Op: -5, N: 9})
	rows := append(l.Rows, api.Row{Dest: slot(9)})
	return api.Prog{Wide: wide[:4], Code: code[:2]}, api.Placed{Slots: slots, Rows: rows[:2]}
}

// whole stretches the lists over all that behind has laid.
func whole(p *api.Prog, l *api.Placed) {
	row := &l.Rows[0]
	row.Before, row.After = row.Before[:len(row.Before)+7], row.After[:len(row.After)+7]
	p.Wide, p.Code, l.Rows = p.Wide[:5], p.Code[:3], l.Rows[:3]
}

func TestNothingBehindListsIsRead(t *testing.T) {
	p := prog(api.Ins{Op: api.XHalt})
	rows := []api.Row{{}, {}, {}}
	for count := range rows {
		expect(t, p, singles, api.Placed{Rows: rows[:count]}, count == 2, "as many rows as these, and some behind them")
	}
	wide := []bool{false, true, false, true, true}
	code := []api.Ins{{Op: api.XMove, Dest: 4, A: 4}}
	l := api.Placed{Rows: []api.Row{{Dest: double(1), A: double(1)}}}
	expect(t, api.Prog{Wide: wide[:4], Code: code}, singles, l, false, "the temporary lies behind the list")
	expect(t, api.Prog{Wide: wide, Code: code}, singles, l, true, "it lies in it")
}

// TestNothingIsKept: what was asked before has no say in what is answered.
func TestNothingIsKept(t *testing.T) {
	g := goods()[5]
	for range 3 {
		g.expect(t, true, "it may be")
		expect(t, prog(g.i), 4, placed(g.row), false, "a target with less")
		expect(t, prog(g.i), 5, placed(g.row), false, "no target")
		expect(t, prog(api.Ins{}), singles, placed(g.row), false, "no program")
		expectMove(t, singles, slots, api.Move{To: single(1), From: slot(slots - 1)}, true, "a slot")
		expectMove(t, singles, slots-1, api.Move{To: single(1), From: slot(slots - 1)}, false, "a slot that is not there")
	}
}
