package live

import (
	"math"
	"reflect"
	"slices"
	"strings"
	"testing"

	"loanbook/api"
)

// Temporaries of the programs below: n0 to n2 are narrow, w0 to w2 wide.
const (
	n0 = 0
	n1 = 1
	n2 = 2
	w0 = 3
	w1 = 4
	w2 = 5
)

const names = "abcxyz"

func temps() []bool { return []bool{false, false, false, true, true, true} }

func prog(code ...api.Ins) api.Prog { return api.Prog{Wide: temps(), Code: code} }

func in(dest int) api.Ins             { return api.Ins{Op: api.XIn, Dest: dest} }
func out(a int) api.Ins               { return api.Ins{Op: api.XOut, A: a} }
func give(dest int, n uint32) api.Ins { return api.Ins{Op: api.XConst, Dest: dest, N: n} }
func jump(c int) api.Ins              { return api.Ins{Op: api.XJump, C: c} }
func onIf(a, c int) api.Ins           { return api.Ins{Op: api.XIf, A: a, C: c} }
func halt() api.Ins                   { return api.Ins{Op: api.XHalt} }

func take(op, dest, a, b int) api.Ins { return api.Ins{Op: op, Dest: dest, A: a, B: b} }

// told writes each row as the letters of what is needed, of names: rows are then read at a glance.
func told(rows [][]bool) []string {
	var list []string
	for _, row := range rows {
		var b strings.Builder
		for t, is := range row {
			if is {
				b.WriteByte(names[t])
			}
		}
		list = append(list, b.String())
	}
	return list
}

// expect asks a program with the six temporaries for its rows, each told by letters.
func expect(t *testing.T, p api.Prog, want ...string) {
	t.Helper()
	got, e := Of(p)
	if e != api.OK || !slices.Equal(told(got), want) {
		t.Errorf("Of(%v) = %q, %d, want %q", p, told(got), e, want)
	}
	expectSizes(t, p, got)
}

func expectSizes(t *testing.T, p api.Prog, rows [][]bool) {
	t.Helper()
	if len(rows) != len(p.Code) {
		t.Errorf("Of(%v) has %d rows", p, len(rows))
	}
	for _, row := range rows {
		if len(row) != len(p.Wide) {
			t.Errorf("Of(%v) has a row of %d", p, len(row))
		}
	}
}

// each has an instruction of each op, with all that it has, and the letters of what it takes and gives.
var each = []struct {
	i            api.Ins
	takes, gives string
}{
	{give(n1, 7), "", "b"},
	{give(n0, 0), "", "a"},
	{take(api.XMove, n1, n2, 0), "c", "b"},
	{take(api.XMove, w1, w2, 0), "z", "y"},
	{take(api.XMove, n0, n1, 0), "b", "a"},
	{take(api.XMove, n1, n0, 0), "a", "b"},
	{in(n1), "", "b"},
	{in(n0), "", "a"},
	{out(n1), "b", ""},
	{out(n0), "a", ""},
	{take(api.XPair, w1, n1, n2), "bc", "y"},
	{take(api.XPair, w1, n2, n0), "ac", "y"},
	{take(api.XPair, w1, n0, n1), "ab", "y"},
	{take(api.XPair, w0, n0, n0), "a", "x"},
	{take(api.XLow, n1, w1, 0), "y", "b"},
	{take(api.XLow, n0, w0, 0), "x", "a"},
	{take(api.XHigh, n1, w1, 0), "y", "b"},
	{take(api.XHigh, n0, w2, 0), "z", "a"},
	{onIf(n1, 1), "b", ""},
	{onIf(n0, 1), "a", ""},
	{take(api.XOp+api.OpAdd, n0, n1, n2), "bc", "a"},
	{take(api.XOp+api.OpSub, n1, n2, n0), "ac", "b"},
	{take(api.XOp+api.OpMul, n2, n0, n1), "ab", "c"},
	{take(api.XOp+api.OpAnd, n0, n2, n1), "bc", "a"},
	{take(api.XOp+api.OpXor, n2, n1, n1), "b", "c"},
	{take(api.XOp+api.OpLess, n1, n0, n2), "ac", "b"},
	{take(api.XWide+api.OpAdd, w0, w1, w2), "yz", "x"},
	{take(api.XWide+api.OpSub, w1, w2, w0), "xz", "y"},
	{take(api.XWide+api.OpMul, w2, w0, w1), "xy", "z"},
	{take(api.XWide+api.OpAnd, w0, w2, w1), "yz", "x"},
	{take(api.XWide+api.OpXor, w1, w0, w0), "x", "y"},
}

func TestWhatIsTaken(t *testing.T) {
	for _, c := range each {
		expect(t, prog(c.i, halt()), c.takes, "")
		if c.i.Op != api.XIf {
			expect(t, prog(c.i), c.takes)
		}
	}
	expect(t, prog(halt()), "")
	expect(t, prog(halt(), halt()), "", "")
	expect(t, prog(jump(1), halt()), "", "")
}

// takesAll are instructions ahead of which each temporary is needed.
func takesAll() []api.Ins {
	return []api.Ins{
		out(n0), out(n1), out(n2),
		take(api.XLow, n0, w0, 0), take(api.XLow, n0, w1, 0), take(api.XLow, n0, w2, 0),
	}
}

// without takes letters out of all those of the temporaries.
func without(letters string) string {
	return strings.Map(func(r rune) rune {
		if strings.ContainsRune(letters, r) {
			return -1
		}
		return r
	}, names)
}

// union has the letters of both, in the order of names.
func union(a, b string) string { return without(without(a + b)) }

func TestWhatIsGiven(t *testing.T) {
	for _, c := range each {
		p := prog(append([]api.Ins{c.i}, takesAll()...)...)
		got, e := Of(p)
		if want := union(c.takes, without(c.gives)); e != api.OK || told(got)[0] != want || told(got)[1] != names {
			t.Errorf("Of(%v) = %q, %d, want %q and %q first", p, told(got), e, want, names)
		}
	}
	expect(t, prog(jump(1), out(n0), halt()), "a", "a", "")
	expect(t, prog(halt(), out(n0), halt()), "", "a", "")
}

func TestTakenAndGivenByOne(t *testing.T) {
	for _, c := range []struct {
		i     api.Ins
		takes string
	}{
		{take(api.XMove, n1, n1, 0), "b"},
		{take(api.XMove, w1, w1, 0), "y"},
		{take(api.XOp+api.OpAdd, n1, n1, n0), "ab"},
		{take(api.XOp+api.OpSub, n1, n0, n1), "ab"},
		{take(api.XOp+api.OpXor, n1, n1, n1), "b"},
		{take(api.XWide+api.OpAdd, w1, w1, w0), "xy"},
		{take(api.XWide+api.OpSub, w1, w0, w1), "xy"},
		{take(api.XWide+api.OpXor, w1, w1, w1), "y"},
	} {
		expect(t, prog(c.i), c.takes)
		expect(t, prog(c.i, halt()), c.takes, "")
		expect(t, prog(c.i, c.i), c.takes, c.takes)
		p := prog(append([]api.Ins{c.i}, takesAll()...)...)
		if got, _ := Of(p); told(got)[0] != names {
			t.Errorf("Of(%v) = %q, want %q first", p, told(got), names)
		}
	}
}

func TestGivenAndNeverTaken(t *testing.T) {
	expect(t, prog(in(n0), give(n1, 3), halt()), "", "", "")
	expect(t, prog(in(n0), in(n1), out(n1)), "", "", "b")
	expect(t, prog(take(api.XPair, w0, n0, n1), halt()), "ab", "")
	expect(t, prog(in(n0), jump(0)), "", "")
}

func TestTakenAndNeverGiven(t *testing.T) {
	expect(t, prog(in(n0), in(n0), out(n1), halt()), "b", "b", "b", "")
	expect(t, prog(in(n0), take(api.XLow, n0, w2, 0), out(n0)), "z", "z", "a")
}

func TestFromWhereItIsGivenOn(t *testing.T) {
	expect(t, prog(in(n0), in(n1), out(n1), out(n0), in(n0), out(n0)), "", "a", "ab", "a", "", "a")
	expect(t, prog(out(n0), in(n0), in(n0), out(n0)), "a", "", "", "a")
	expect(t, prog(in(n0), take(api.XMove, n1, n0, 0), take(api.XMove, n2, n1, 0), out(n2)), "", "a", "b", "c")
}

func TestJump(t *testing.T) {
	expect(t, prog(jump(2), out(n0), out(n1), halt()), "b", "ab", "b", "")
	expect(t, prog(jump(3), out(n0), in(n1), halt()), "", "a", "", "")
	expect(t, prog(jump(1), out(n0), halt()), "a", "a", "")
	expect(t, prog(out(n0), jump(0)), "a", "a")
	expect(t, prog(out(n0), jump(0), out(n1)), "a", "a", "b")
	expect(t, prog(in(n0), out(n0), jump(0)), "", "a", "")
	expect(t, prog(jump(1), jump(2), jump(3), out(n2)), "c", "c", "c", "c")
	expect(t, prog(jump(3), out(n2), halt(), jump(1)), "c", "c", "", "c")
}

func TestJumpToItself(t *testing.T) {
	expect(t, prog(jump(0)), "")
	expect(t, prog(out(n0), jump(1), out(n1)), "a", "", "b")
	expect(t, prog(jump(1), jump(0), out(n1)), "", "", "b")
}

func TestIf(t *testing.T) {
	expect(t, prog(onIf(n0, 3), out(n1), halt(), out(n2)), "abc", "b", "", "c")
	expect(t, prog(onIf(n0, 3), in(n1), halt(), out(n2)), "ac", "", "", "c")
	expect(t, prog(onIf(n0, 3), out(n1), halt(), in(n2)), "ab", "b", "", "")
	expect(t, prog(onIf(n0, 1), out(n1)), "ab", "b")
	expect(t, prog(onIf(n0, 2), in(n1), out(n1)), "ab", "", "b")
	expect(t, prog(onIf(n0, 2), jump(3), in(n1), out(n1)), "ab", "b", "", "b")
	expect(t, prog(out(n2), onIf(n0, 0), out(n1)), "abc", "abc", "b")
}

func TestIfAtTheEnd(t *testing.T) {
	expect(t, prog(onIf(n0, 0)), "a")
	expect(t, prog(out(n1), onIf(n0, 0)), "ab", "ab")
	expect(t, prog(in(n0), onIf(n0, 0)), "", "a")
	expect(t, prog(out(n1), onIf(n0, 1)), "ab", "a")
}

func TestHalt(t *testing.T) {
	expect(t, prog(halt(), out(n0)), "", "a")
	expect(t, prog(in(n1), halt(), out(n0), out(n1)), "", "", "ab", "b")
	expect(t, prog(out(n0), halt(), out(n0), out(n1)), "a", "", "ab", "b")
}

func TestBehindTheLastOne(t *testing.T) {
	expect(t, prog(out(n0), in(n0)), "a", "")
	expect(t, prog(out(n0), out(n1)), "ab", "b")
	expect(t, prog(out(n0), take(api.XMove, n1, n2, 0)), "ac", "c")
}

// TestBack: what is needed by way of a jump back alone.
func TestBack(t *testing.T) {
	expect(t, prog(in(n0), give(n1, 1), out(n0), take(api.XOp+api.OpAdd, n0, n0, n1), jump(2)), "", "a", "ab", "ab", "ab")
	expect(t, prog(in(n0), jump(3), out(n1), in(n1), onIf(n0, 2), halt()), "", "a", "ab", "a", "ab", "")
	expect(t, prog(jump(2), jump(4), out(n0), jump(1), onIf(n1, 2), halt()), "ab", "ab", "ab", "ab", "ab", "")
}

func TestLoopWithinALoop(t *testing.T) {
	expect(t,
		prog(
			in(n0),      // 0: how often the outer one
			in(n1),      // 1: the outer one begins
			out(n1),     // 2: the inner one begins
			onIf(n1, 2), // 3: ends
			out(n2),     // 4
			onIf(n0, 1), // 5: the outer one ends
			take(api.XLow, n0, w0, 0),
		),
		"cx", "acx", "abcx", "abcx", "acx", "acx", "x")
	expect(t,
		prog(
			onIf(n1, 4),                           // 0: the outer one begins
			take(api.XWide+api.OpAdd, w0, w0, w1), // 1: the inner one begins
			onIf(n0, 1),                           // 2: ends
			jump(0),                               // 3: the outer one ends
			take(api.XHigh, n2, w0, 0),
		),
		"abxy", "abxy", "abxy", "abxy", "x")
}

// chain is a program of jumps from each instruction of the order to the next one, of which the last takes the one temporary that there is.
func chain(order []int) api.Prog {
	p := api.Prog{Wide: make([]bool, 1), Code: make([]api.Ins, len(order))}
	for k, at := range order[1:] {
		p.Code[order[k]] = jump(at)
	}
	p.Code[order[len(order)-1]] = out(0)
	return p
}

// TestLongWays: whichever way the instructions are gone through, a chain that leads the other way brings a need on by one of them at a time.
func TestLongWays(t *testing.T) {
	var ahead, back, both []int
	for k := range api.MaxCode {
		ahead = append(ahead, k)
		back = append(back, api.MaxCode-1-k)
		if k%2 == 0 {
			both = append(both, k/2)
		} else {
			both = append(both, api.MaxCode-1-k/2)
		}
	}
	for _, order := range [][]int{ahead, back, both} {
		p := chain(order)
		got, e := Of(p)
		if e != api.OK || slices.ContainsFunc(got, func(row []bool) bool { return !row[0] }) {
			t.Errorf("Of(%v) = %v, %d, want the temporary needed ahead of each", p, got, e)
		}
		p.Code[order[api.MaxCode-1]] = in(0)
		got, e = Of(p)
		if e != api.OK || slices.ContainsFunc(got, func(row []bool) bool { return row[0] }) {
			t.Errorf("Of(%v) = %v, %d, want the temporary needed ahead of none", p, got, e)
		}
	}
}

// TestWhereNoWayLeads: instructions that are never come to have needs of their own, and give none to others.
func TestWhereNoWayLeads(t *testing.T) {
	expect(t, prog(halt(), out(n0), out(n1)), "", "ab", "b")
	expect(t, prog(jump(0), out(n0), jump(0)), "", "a", "")
	expect(t, prog(jump(2), onIf(n1, 1), in(n0), halt()), "", "b", "", "")
	expect(t, prog(jump(3), out(n0), jump(1), halt()), "", "a", "a", "")
	expect(t, prog(jump(3), out(n0), jump(3), out(n1)), "b", "ab", "b", "b")
}

// TestLeast: the greatest truths would keep n0 up in a circle, from nothing.
func TestLeast(t *testing.T) {
	expect(t, prog(jump(1), jump(0)), "", "")
	expect(t, prog(in(n1), out(n1), jump(0)), "", "b", "")
	expect(t, prog(in(n1), onIf(n1, 0), halt()), "", "b", "")
	expect(t, prog(onIf(n1, 0), jump(0)), "b", "b")
	expect(t, prog(in(n0), onIf(n1, 0), jump(1)), "b", "b", "b")
}

func TestOneTempAndOneInstruction(t *testing.T) {
	for _, c := range []struct {
		i    api.Ins
		wide bool
		want bool
	}{
		{give(0, 1), false, false},
		{take(api.XMove, 0, 0, 0), false, true},
		{take(api.XMove, 0, 0, 0), true, true},
		{in(0), false, false},
		{out(0), false, true},
		{jump(0), false, false},
		{jump(0), true, false},
		{onIf(0, 0), false, true},
		{halt(), false, false},
		{halt(), true, false},
		{take(api.XOp+api.OpLess, 0, 0, 0), false, true},
		{take(api.XWide+api.OpXor, 0, 0, 0), true, true},
	} {
		p := api.Prog{Wide: []bool{c.wide}, Code: []api.Ins{c.i}}
		if got, e := Of(p); e != api.OK || !reflect.DeepEqual(got, [][]bool{{c.want}}) {
			t.Errorf("Of(%v) = %v, %d, want %v", p, got, e, c.want)
		}
	}
}

// TestMost: MaxTemps temporaries and MaxCode instructions; each is given, then taken at the end.
func TestMost(t *testing.T) {
	p := api.Prog{Wide: make([]bool, api.MaxTemps), Code: make([]api.Ins, api.MaxCode)}
	want := make([][]bool, api.MaxCode)
	for k := range p.Code {
		want[k] = make([]bool, api.MaxTemps)
		p.Code[k] = jump(k)
		if k+1 < api.MaxCode {
			p.Code[k].C = k + 1
		}
	}
	for d := range api.MaxTemps {
		given, taken := d, api.MaxCode-1-d
		p.Code[given], p.Code[taken] = in(d), out(d)
		for k := given + 1; k <= taken; k++ {
			want[k][d] = true
		}
	}
	got, e := Of(p)
	if e != api.OK || !reflect.DeepEqual(got, want) {
		t.Errorf("Of(%v) = %v, %d, want %v", p, got, e, want)
	}
	expectSizes(t, p, got)
}

func TestWrongPrograms(t *testing.T) {
	code := []api.Ins{halt()}
	for _, p := range []api.Prog{
		{},
		{Wide: temps()},
		{Code: code},
		{Wide: []bool{}, Code: code},
		{Wide: temps(), Code: []api.Ins{}},
		{Wide: make([]bool, api.MaxTemps+1), Code: code},
		{Wide: temps(), Code: slices.Repeat(code, api.MaxCode+1)},
		prog(api.Ins{}),
		prog(halt(), api.Ins{Op: 11}),
		prog(api.Ins{Op: api.XOp}),
		prog(api.Ins{Op: api.XWide}),
		prog(take(api.XWide+api.OpLess, w0, w0, w0)),
		prog(in(w0)),
		prog(in(6)),
		prog(in(-1)),
		prog(out(math.MaxInt)),
		prog(out(math.MinInt)),
		prog(out(w0)),
		prog(take(api.XMove, n0, w0, 0)),
		prog(take(api.XPair, n0, n0, n0)),
		prog(take(api.XLow, n0, n0, 0)),
		prog(jump(1)),
		prog(jump(-1)),
		prog(jump(math.MaxInt)),
		prog(onIf(n0, 1)),
		prog(onIf(n0, math.MinInt)),
		prog(out(n0), in(n0), api.Ins{Op: api.XHalt, N: 1}),
		prog(out(n0), in(n0), api.Ins{Op: api.XHalt, C: 1}),
	} {
		if got, e := Of(p); e != api.ErrForm || len(got) != 0 {
			t.Errorf("Of(%v) = %v, %d, want nothing, ErrForm", p, got, e)
		}
	}
}

// behind lets more lie behind the lists' lengths.
func behind(p api.Prog) (api.Prog, []bool, []api.Ins) {
	wide := append(slices.Clone(p.Wide), true, false)
	code := append(slices.Clone(p.Code), out(n0), api.Ins{Op: -1, N: 9})
	return api.Prog{Wide: wide[:len(p.Wide)], Code: code[:len(p.Code)]}, wide, code
}

func TestNothingIsChanged(t *testing.T) {
	for _, q := range []api.Prog{
		prog(in(n0), onIf(n1, 0), out(n0)),
		prog(in(n0), in(n1)),
		prog(jump(0), jump(9)),
	} {
		p, wide, code := behind(q)
		wasWide, wasCode := slices.Clone(wide), slices.Clone(code)
		first, firstErr := Of(p)
		if !slices.Equal(wide, wasWide) || !slices.Equal(code, wasCode) {
			t.Errorf("Of changed what was handed in, or what lies behind it: %v, %v", wide, code)
		}
		alone, aloneErr := Of(q)
		if !reflect.DeepEqual(first, alone) || firstErr != aloneErr {
			t.Errorf("Of(%v) = %v, %d, but %v, %d with more behind it", q, alone, aloneErr, first, firstErr)
		}
	}
}

// TestNewMemory writes over all of each list that came out, and expects nothing else to change.
func TestNewMemory(t *testing.T) {
	p := prog(in(n0), onIf(n1, 0), out(n0), take(api.XLow, n2, w1, 0))
	wide, code := slices.Clone(p.Wide), slices.Clone(p.Code)
	want, _ := Of(p)
	for k := range want {
		rows, _ := Of(p)
		row := rows[k][:cap(rows[k])]
		for d := range row {
			row[d] = !row[d]
		}
		for other := range rows {
			if other != k && !slices.Equal(rows[other], want[other]) {
				t.Errorf("rows %d and %d share memory", k, other)
			}
		}
	}
	if again, _ := Of(p); !reflect.DeepEqual(again, want) {
		t.Errorf("Of(%v) = %v, was %v", p, again, want)
	}
	if !slices.Equal(p.Wide, wide) || !slices.Equal(p.Code, code) {
		t.Errorf("what came out shares memory with what was handed in")
	}
	kept, _ := Of(p)
	p.Code[2], p.Wide[n2] = halt(), true
	if !reflect.DeepEqual(kept, want) {
		t.Errorf("what came out hangs on what was handed in: %v", kept)
	}
}
