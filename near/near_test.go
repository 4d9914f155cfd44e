package near

import (
	"math"
	"reflect"
	"slices"
	"strings"
	"testing"

	"loanbook/api"
)

// Temporaries of the programs below: n0 to n2 are narrow, w0 to w2 wide.
const (
	n0 = 0
	n1 = 1
	n2 = 2
	w0 = 3
	w1 = 4
	w2 = 5
)

const names = "abcxyz"

func temps() []bool { return []bool{false, false, false, true, true, true} }

func prog(code ...api.Ins) api.Prog { return api.Prog{Wide: temps(), Code: code} }

func in(dest int) api.Ins      { return api.Ins{Op: api.XIn, Dest: dest} }
func out(a int) api.Ins        { return api.Ins{Op: api.XOut, A: a} }
func give(dest int) api.Ins    { return api.Ins{Op: api.XConst, Dest: dest, N: 7} }
func move(dest, a int) api.Ins { return api.Ins{Op: api.XMove, Dest: dest, A: a} }
func low(dest, a int) api.Ins  { return api.Ins{Op: api.XLow, Dest: dest, A: a} }
func jump(c int) api.Ins       { return api.Ins{Op: api.XJump, C: c} }
func onIf(a, c int) api.Ins    { return api.Ins{Op: api.XIf, A: a, C: c} }
func halt() api.Ins            { return api.Ins{Op: api.XHalt} }

func three(op, dest, a, b int) api.Ins { return api.Ins{Op: op, Dest: dest, A: a, B: b} }
func add(dest, a, b int) api.Ins       { return three(api.XOp+api.OpAdd, dest, a, b) }
func addWide(dest, a, b int) api.Ins   { return three(api.XWide+api.OpAdd, dest, a, b) }

// told writes each two that are near as their letters, of names, the lesser first.
func told(rows [][]bool) []string {
	var list []string
	for one, row := range rows {
		for other := one + 1; other < len(row); other++ {
			if row[other] {
				list = append(list, names[one:one+1]+names[other:other+1])
			}
		}
	}
	return list
}

// pairs writes one letter with each of the others as told does.
func pairs(letter, others string) []string {
	var list []string
	for _, other := range strings.Split(others, "") {
		list = append(list, min(letter, other)+max(letter, other))
	}
	slices.Sort(list)
	return list
}

// expect asks a program with the six temporaries for those that are near, each two told by letters.
func expect(t *testing.T, p api.Prog, want ...string) {
	t.Helper()
	got, e := Of(p)
	if e != api.OK {
		t.Errorf("Of(%v): %d, want OK", p, e)
		return
	}
	expectSquare(t, p, got)
	if !slices.Equal(told(got), want) {
		t.Errorf("Of(%v) = %q, want %q", p, told(got), want)
	}
}

// expectSquare asks for a row for each temporary, in it a mark for each, the same either way round, and none for itself.
func expectSquare(t *testing.T, p api.Prog, rows [][]bool) {
	t.Helper()
	if len(rows) != len(p.Wide) {
		t.Fatalf("Of(%v) has %d rows", p, len(rows))
	}
	for one, row := range rows {
		if len(row) != len(p.Wide) {
			t.Fatalf("Of(%v) has a row of %d", p, len(row))
		}
		if row[one] {
			t.Errorf("Of(%v): %d is near to itself", p, one)
		}
	}
	for one := range rows {
		for other := range rows {
			if rows[one][other] != rows[other][one] {
				t.Errorf("Of(%v): %d and %d are near one way round alone", p, one, other)
			}
		}
	}
}

// givers has an instruction of each op that gives a temporary, and more where it is one of those that are taken, too.
func givers() []api.Ins {
	list := []api.Ins{
		give(n1), give(n0),
		in(n1), in(n2), in(n0),
		move(n1, n2), move(n1, n0), move(n0, n2), move(n1, n1), move(w1, w2), move(w0, w1), move(w1, w1),
		three(api.XPair, w1, n1, n2), three(api.XPair, w2, n0, n1), three(api.XPair, w0, n2, n2),
		low(n1, w1), low(n0, w0), low(n2, w2),
		{Op: api.XHigh, Dest: n1, A: w1}, {Op: api.XHigh, Dest: n0, A: w2},
	}
	for op := api.OpAdd; op <= api.OpLess; op++ {
		list = append(list, three(api.XOp+op, n0, n1, n2), three(api.XOp+op, n1, n1, n0), three(api.XOp+op, n2, n2, n2))
	}
	for op := api.OpAdd; op <= api.OpXor; op++ {
		list = append(list, three(api.XWide+op, w0, w1, w2), three(api.XWide+op, w1, w0, w1), three(api.XWide+op, w2, w2, w2))
	}
	return list
}

// nearTo has the letters of those, among the needed ones, that an instruction makes near to what it gives.
func nearTo(i api.Ins, needed string) string {
	needed = strings.ReplaceAll(needed, names[i.Dest:i.Dest+1], "")
	if i.Op == api.XMove {
		needed = strings.ReplaceAll(needed, names[i.A:i.A+1], "")
	}
	return needed
}

// taker needs the temporary, and makes nothing near where nothing is needed behind it.
func taker(temp int) api.Ins {
	if temps()[temp] {
		return low(n0, temp)
	}
	return out(temp)
}

// TestGivenAndAllNeeded: halt comes first, so that nothing is needed ahead of the first instruction; and all six are needed where the given one goes on, by two ways, on which nothing else is made near.
func TestGivenAndAllNeeded(t *testing.T) {
	ways := []api.Ins{onIf(n0, 7), out(n1), out(n2), addWide(w0, w0, w1), halt(), low(n0, w2), halt()}
	expect(t, prog(append([]api.Ins{halt(), jump(2)}, ways...)...))
	for _, i := range givers() {
		p := prog(append([]api.Ins{halt(), i}, ways...)...)
		expect(t, p, pairs(names[i.Dest:i.Dest+1], nearTo(i, names))...)
	}
}

func TestGivenAndOneNeeded(t *testing.T) {
	for _, i := range givers() {
		for temp := range names {
			p := prog(halt(), i, taker(temp), halt())
			expect(t, p, pairs(names[i.Dest:i.Dest+1], nearTo(i, names[temp:temp+1]))...)
		}
	}
}

func TestNeededAheadAlone(t *testing.T) {
	for _, i := range givers() {
		expect(t, prog(halt(), i, halt()))
		expect(t, prog(halt(), i, jump(0), out(n0)))
		expect(t, prog(halt(), i))
	}
	expect(t, prog(in(n0), move(n1, n0), out(n1)))
	expect(t, prog(in(n0), add(n1, n0, n0), out(n1)))
	expect(t, prog(in(n0), add(n1, n0, n0), add(n2, n1, n1), out(n2)))
	expect(t, prog(in(n0), in(n1), add(n2, n0, n1), out(n2)), "ab")
	expect(t, prog(in(n0), in(n1), three(api.XPair, w0, n0, n1), addWide(w1, w0, w0), low(n2, w1), out(n2)), "ab")
}

func TestGivenAndNeverNeeded(t *testing.T) {
	expect(t, prog(in(n0), in(n1), out(n0), halt()), "ab")
	expect(t, prog(in(n0), give(n1), out(n0)), "ab")
	expect(t, prog(in(n0), low(n1, w0), out(n0)), "ab", "ax")
	expect(t, prog(in(n0), three(api.XPair, w0, n0, n0), out(n0)), "ax")
	expect(t, prog(in(n0), in(n1), in(n2), out(n0)), "ab", "ac")
	expect(t, prog(in(n0), in(n1), in(n1), out(n1), out(n0)), "ab")
	expect(t, prog(in(n0), out(n0), in(n1), halt()))
	expect(t, prog(in(n1), in(n0), out(n0), halt()))
}

func TestGivenAgain(t *testing.T) {
	expect(t, prog(in(n0), in(n1), in(n0), out(n0), out(n1)), "ab")
	expect(t, prog(in(n0), out(n0), in(n1), out(n1), in(n0), out(n0)))
	expect(t, prog(in(n0), in(n0), out(n0)))
	expect(t, prog(in(n0), add(n0, n0, n0), out(n0)))
}

func TestMove(t *testing.T) {
	expect(t, prog(in(n0), move(n1, n0), out(n1), halt()))
	expect(t, prog(in(n0), move(n1, n0), out(n1), out(n0)))
	expect(t, prog(in(n0), move(n1, n0), out(n0), out(n1)))
	expect(t, prog(in(n0), move(n1, n0), out(n0)))
	expect(t, prog(in(n0), move(n1, n0), halt()))
	expect(t, prog(in(n0), move(n0, n0), out(n0)))
	expect(t, prog(halt(), move(w1, w0), addWide(w2, w0, w1)))
	expect(t, prog(in(n0), move(n1, n0), move(n2, n1), out(n1), out(n2)))
}

func TestMoveAndOthers(t *testing.T) {
	expect(t, prog(in(n2), in(n0), move(n1, n0), out(n1), out(n2)), "ac", "bc")
	expect(t, prog(in(n2), in(n0), move(n1, n0), add(n0, n0, n1), out(n2)), "ac", "bc")
	expect(t, prog(halt(), move(n1, n0), add(n0, n0, n2)), "bc")
	expect(t, prog(halt(), move(n1, n0), move(n2, n0), out(n0), out(n1), out(n2)), "bc")
	expect(t, prog(halt(), move(w1, w0), low(n0, w2), halt()), "yz")
	expect(t, prog(halt(), move(w1, w0), low(n0, w0), out(n0), out(n1)), "ab", "by")
}

// TestMoveAndAnother: what a move alone would not make near, another instruction does, be it ahead of it, behind it, or never come to; or both are needed at the beginning.
func TestMoveAndAnother(t *testing.T) {
	expect(t, prog(in(n0), move(n1, n0), in(n0), out(n0), out(n1)), "ab")
	expect(t, prog(in(n0), move(n1, n0), in(n1), out(n0), out(n1)), "ab")
	expect(t, prog(in(n0), move(n1, n0), add(n1, n1, n1), out(n0), out(n1)), "ab")
	expect(t, prog(in(n0), in(n1), out(n0), out(n1), move(n1, n0), out(n1)), "ab")
	expect(t, prog(in(n0), move(n1, n0), out(n1), halt(), in(n1), out(n0)), "ab")
	expect(t, prog(out(n0), out(n1), move(n1, n0), out(n1), out(n0)), "ab")
	expect(t, prog(halt(), move(n1, n0), move(n0, n1), out(n0), out(n1)))
}

// TestTakenByMoveBehind: it is the instruction that gives whose A is left out, not the one where it goes on.
func TestTakenByMoveBehind(t *testing.T) {
	expect(t, prog(halt(), in(n0), move(n2, n1)), "ab")
	expect(t, prog(halt(), in(n0), move(n0, n1), out(n0)), "ab")
	expect(t, prog(halt(), move(n0, n1), move(n2, n1)))
	expect(t, prog(halt(), move(n0, n1), move(n1, n2)), "ac")
}

func TestTakenByOthers(t *testing.T) {
	expect(t, prog(in(n0), add(n1, n0, n0), out(n0)), "ab")
	expect(t, prog(in(n0), add(n1, n0, n0), out(n1)))
	expect(t, prog(in(n0), in(n2), add(n1, n0, n2), out(n0)), "ab", "ac")
	expect(t, prog(in(n0), in(n2), add(n1, n0, n2), out(n2)), "ac", "bc")
	expect(t, prog(halt(), low(n0, w0), low(n0, w0)), "ax")
	expect(t, prog(halt(), api.Ins{Op: api.XHigh, Dest: n1, A: w1}, low(n0, w1)), "by")
	expect(t, prog(halt(), three(api.XPair, w1, n1, n2), out(n1)), "by")
	expect(t, prog(halt(), three(api.XPair, w1, n1, n2), out(n2)), "cy")
	expect(t, prog(halt(), addWide(w0, w1, w2), low(n0, w1)), "xy")
	expect(t, prog(halt(), addWide(w0, w1, w2), low(n0, w2)), "xz")
	// Their A is 0, and that is no temporary that they take.
	expect(t, prog(halt(), give(n1), out(n0)), "ab")
	expect(t, prog(halt(), in(n1), out(n0)), "ab")
}

func TestFirst(t *testing.T) {
	expect(t, prog(out(n0), out(n1)), "ab")
	expect(t, prog(out(n0), out(n1), out(n2), low(n0, w0)), "ab", "ac", "ax", "bc", "bx", "cx")
	expect(t, prog(add(n0, n1, n2)), "bc")
	expect(t, prog(add(n0, n0, n1)), "ab")
	expect(t, prog(three(api.XPair, w0, n1, n2)), "bc")
	expect(t, prog(addWide(w0, w1, w2)), "yz")
	expect(t, prog(out(n0)))
	expect(t, prog(out(n0), out(n0)))
	expect(t, prog(add(n0, n0, n0)))
	expect(t, prog(out(n0), in(n1), out(n1)))
	expect(t, prog(out(n0), halt(), out(n1)))
	expect(t, prog(halt(), out(n0), out(n1)))
	expect(t, prog(jump(1), out(n0), out(n1)), "ab")
	expect(t, prog(onIf(n0, 2), halt(), out(n1)), "ab")
	expect(t, prog(onIf(n0, 3), out(n1), halt(), out(n2)), "ab", "ac", "bc")
	expect(t, prog(move(n0, n1), out(n0), out(n2)), "ac", "bc")
}

// TestFirstMoved: two that are needed ahead of the first instruction are near, though all that is ever given is the one, moved to the other.
func TestFirstMoved(t *testing.T) {
	expect(t, prog(onIf(n0, 2), jump(3), move(n0, n1), out(n0), halt()), "ab")
	expect(t, prog(move(n0, n1), onIf(n0, 0), out(n0)))
}

func TestGivesNothing(t *testing.T) {
	needs := []api.Ins{out(n0), out(n1), halt()}
	for _, i := range []api.Ins{out(n2), out(n0), onIf(n2, 2), onIf(n0, 4), onIf(n2, 1), jump(2), jump(3), jump(1), halt()} {
		expect(t, prog(append([]api.Ins{halt(), i}, needs...)...))
	}
	// The Dest of these is 0, and that is no temporary that they give.
	expect(t, prog(halt(), out(n1), out(n2)))
	expect(t, prog(halt(), onIf(n1, 0), out(n2)))
	expect(t, prog(halt(), jump(2), out(n2)))
}

func TestLast(t *testing.T) {
	for _, i := range givers() {
		expect(t, prog(halt(), i))
		expect(t, prog(halt(), out(n0), i))
	}
	expect(t, prog(in(n0), in(n1)))
	expect(t, prog(in(n0), out(n0), in(n1)))
	expect(t, prog(out(n0), in(n1)))
	expect(t, prog(in(n0), in(n1), out(n0)), "ab")
}

func TestLoops(t *testing.T) {
	expect(t, prog(in(n0), give(n1), out(n0), add(n0, n0, n1), jump(2)), "ab")
	expect(t, prog(in(n0), in(n1), out(n1), onIf(n0, 1), halt()), "ab")
	expect(t, prog(in(n0), in(n1), out(n1), onIf(n0, 0), halt()), "ab")
	expect(t, prog(in(n0), out(n0), in(n1), out(n1), jump(0)))
	expect(t, prog(out(n0), in(n1), jump(0)), "ab")
	expect(t, prog(out(n0), in(n1), onIf(n1, 0)), "ab")
	expect(t, prog(in(n2), jump(0)))
}

// TestBack: a temporary is needed behind the one that is given by way of a jump back alone.
func TestBack(t *testing.T) {
	expect(t, prog(jump(3), out(n0), halt(), in(n1), jump(1)), "ab")
	expect(t, prog(jump(4), in(n2), out(n0), halt(), in(n1), jump(1)), "ab", "ac")
	expect(t, prog(jump(4), in(n0), out(n0), halt(), in(n1), jump(1)))
	expect(t,
		prog(
			in(n0),              // 0
			in(n1),              // 1: the outer one begins
			addWide(w0, w0, w1), // 2: the inner one begins
			onIf(n1, 2),         // 3: ends
			onIf(n0, 1),         // 4: the outer one ends
			low(n2, w0),         // 5
			out(n2),
		),
		"ab", "ax", "ay", "bx", "by", "xy")
}

// TestWhereNoWayLeads: instructions that are never come to make near what they give, and what is needed behind them, as all others do.
func TestWhereNoWayLeads(t *testing.T) {
	expect(t, prog(halt(), in(n0), out(n1)), "ab")
	expect(t, prog(in(n2), halt(), in(n0), out(n1)), "ab")
	expect(t, prog(jump(0), in(n0), out(n1)), "ab")
	expect(t, prog(jump(3), in(n0), jump(3), out(n1)), "ab")
	expect(t, prog(jump(3), in(n0), out(n1), out(n2), halt()), "ab", "ac")
	expect(t, prog(jump(2), onIf(n1, 1), in(n0), halt()))
}

func TestOneTemp(t *testing.T) {
	for _, c := range []struct {
		wide bool
		code []api.Ins
	}{
		{false, []api.Ins{give(0)}},
		{false, []api.Ins{move(0, 0)}},
		{true, []api.Ins{move(0, 0)}},
		{false, []api.Ins{in(0), out(0)}},
		{false, []api.Ins{out(0), in(0), out(0)}},
		{false, []api.Ins{jump(0)}},
		{false, []api.Ins{onIf(0, 0)}},
		{true, []api.Ins{halt()}},
		{false, []api.Ins{add(0, 0, 0), out(0)}},
		{true, []api.Ins{addWide(0, 0, 0), addWide(0, 0, 0)}},
		{false, slices.Repeat([]api.Ins{in(0), out(0)}, api.MaxCode/2)},
	} {
		p := api.Prog{Wide: []bool{c.wide}, Code: c.code}
		if got, e := Of(p); e != api.OK || !reflect.DeepEqual(got, [][]bool{{false}}) {
			t.Errorf("Of(%v) = %v, %d, want one row of one mark, not near", p, got, e)
		}
	}
}

func TestOneInstruction(t *testing.T) {
	for _, i := range givers() {
		takesTwo := (i.Op > api.XOp || i.Op == api.XPair) && i.A != i.B
		if takesTwo {
			expect(t, prog(i), pairs(names[i.A:i.A+1], names[i.B:i.B+1])...)
		} else {
			expect(t, prog(i))
		}
	}
	for _, i := range []api.Ins{halt(), jump(0), out(n1), onIf(n1, 0)} {
		expect(t, prog(i))
	}
}

// expectNear asks for those that are near, of each two, by what tells it.
func expectNear(t *testing.T, p api.Prog, want func(one, other int) bool) {
	t.Helper()
	got, e := Of(p)
	if e != api.OK {
		t.Fatalf("Of(%v): %d, want OK", p, e)
	}
	expectSquare(t, p, got)
	for one := range got {
		for other, is := range got[one] {
			if is != (one != other && want(one, other)) {
				t.Errorf("Of(%v): of %d and %d: %v", p, one, other, is)
			}
		}
	}
}

// TestMost: each of MaxTemps temporaries is given where the two ahead of it are needed still, in MaxCode instructions.
func TestMost(t *testing.T) {
	p := api.Prog{Wide: make([]bool, api.MaxTemps)}
	for d := range api.MaxTemps {
		p.Code = append(p.Code, in(d), out(d))
		if d >= 2 {
			p.Code = append(p.Code, out(d-2))
		}
	}
	p.Code = append(p.Code, out(api.MaxTemps-2), out(api.MaxTemps-1))
	for len(p.Code) < api.MaxCode {
		p.Code = append(p.Code, halt())
	}
	expectNear(t, p, func(one, other int) bool { return max(one, other)-min(one, other) <= 2 })
}

func TestMostAllAndNone(t *testing.T) {
	p := api.Prog{Wide: make([]bool, api.MaxTemps)}
	for d := range api.MaxTemps {
		p.Code = append(p.Code, out(d))
	}
	expectNear(t, p, func(one, other int) bool { return true })
	p.Code = slices.Insert(p.Code, 0, halt())
	expectNear(t, p, func(one, other int) bool { return false })
	for d := range p.Code {
		p.Code[d] = jump(d)
	}
	expectNear(t, p, func(one, other int) bool { return false })
}

// TestFarBack: the last of MaxCode instructions leads back to the first one, which takes what is given ahead of it.
func TestFarBack(t *testing.T) {
	last := api.MaxTemps - 1
	p := api.Prog{Wide: make([]bool, api.MaxTemps), Code: make([]api.Ins, api.MaxCode)}
	for k := range p.Code {
		p.Code[k] = jump((k + 1) % api.MaxCode)
	}
	p.Code[0], p.Code[api.MaxCode-2] = out(last), in(0)
	expectNear(t, p, func(one, other int) bool { return one+other == last && one*other == 0 })
	p.Code[api.MaxCode-1] = in(1)
	expectNear(t, p, func(one, other int) bool { return false })
}

func TestWrongPrograms(t *testing.T) {
	code := []api.Ins{out(n0), out(n1)}
	for _, p := range []api.Prog{
		{},
		{Wide: temps()},
		{Code: code},
		{Wide: []bool{}, Code: code},
		{Wide: temps(), Code: []api.Ins{}},
		{Wide: make([]bool, api.MaxTemps+1), Code: code},
		{Wide: make([]bool, 1), Code: code},
		{Wide: temps(), Code: slices.Repeat(code, api.MaxCode/2+1)},
		prog(api.Ins{}),
		prog(out(n0), out(n1), api.Ins{Op: 11}),
		prog(api.Ins{Op: api.XOp}),
		prog(api.Ins{Op: api.XWide}),
		prog(api.Ins{Op: math.MinInt}),
		prog(three(api.XWide+api.OpLess, w0, w0, w0)),
		prog(in(w0), out(n0)),
		prog(in(6), out(n0)),
		prog(in(-1), out(n0)),
		prog(in(math.MaxInt), out(n0)),
		prog(out(math.MinInt)),
		prog(move(n0, w0)),
		prog(move(w0, n0)),
		prog(move(n0, 6)),
		prog(three(api.XPair, n0, n0, n0)),
		prog(low(n0, n0)),
		prog(jump(1)),
		prog(jump(-1)),
		prog(onIf(n0, math.MaxInt)),
		prog(out(n0), out(n1), api.Ins{Op: api.XHalt, N: 1}),
		prog(out(n0), out(n1), api.Ins{Op: api.XHalt, Dest: 1}),
	} {
		if got, e := Of(p); e != api.ErrForm || len(got) != 0 {
			t.Errorf("Of(%v) = %v, %d, want nothing, ErrForm", p, got, e)
		}
	}
}

func TestNothingIsChanged(t *testing.T) {
	for _, q := range []api.Prog{
		prog(in(n0), onIf(n1, 0), out(n0)),
		prog(in(n0), in(n1)),
		prog(jump(0), jump(9)),
	} {
		// More lies behind the lists' lengths: with it there would be more rows, and two of the second program's temporaries near.
		wide := append(slices.Clone(q.Wide), false, true)
		code := append(slices.Clone(q.Code), out(n0), api.Ins{Op: -1, N: 9})
		wasWide, wasCode := slices.Clone(wide), slices.Clone(code)
		first, firstErr := Of(api.Prog{Wide: wide[:len(q.Wide)], Code: code[:len(q.Code)]})
		if !slices.Equal(wide, wasWide) || !slices.Equal(code, wasCode) {
			t.Errorf("Of changed what was handed in, or what lies behind it: %v, %v", wide, code)
		}
		alone, aloneErr := Of(q)
		if !reflect.DeepEqual(first, alone) || firstErr != aloneErr {
			t.Errorf("Of(%v) = %v, %d, but %v, %d with more behind it", q, alone, aloneErr, first, firstErr)
		}
	}
}

// TestNewMemory writes over all of each list that came out, and expects nothing else to change.
func TestNewMemory(t *testing.T) {
	p := prog(in(n0), onIf(n1, 0), low(n2, w1), out(n0), out(n2))
	wide, code := slices.Clone(p.Wide), slices.Clone(p.Code)
	want, _ := Of(p)
	for k := range want {
		rows, _ := Of(p)
		row := rows[k][:cap(rows[k])]
		for d := range row {
			row[d] = !row[d]
		}
		for other := range rows {
			if other != k && !slices.Equal(rows[other], want[other]) {
				t.Errorf("rows %d and %d share memory", k, other)
			}
		}
	}
	if again, _ := Of(p); !reflect.DeepEqual(again, want) {
		t.Errorf("Of(%v) = %v, was %v", p, again, want)
	}
	if !slices.Equal(p.Wide, wide) || !slices.Equal(p.Code, code) {
		t.Errorf("what came out shares memory with what was handed in")
	}
	kept, _ := Of(p)
	p.Code[2], p.Wide[n2] = halt(), true
	if !reflect.DeepEqual(kept, want) {
		t.Errorf("what came out hangs on what was handed in: %v", kept)
	}
}
