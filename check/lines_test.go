package check

import (
	"fmt"
	"slices"
	"strings"
	"testing"

	"loanbook/api"
)

const max32 = 1<<32 - 1

// The temporaries of the programs of lines: t0 and t1 are narrow, t2 and t3 wide.
const (
	t0 = iota
	t1
	t2
	t3
)

// The target and the slots of the programs of lines.
const (
	singles = 4
	slots   = 2
)

// line is an instruction and its row.
type line struct {
	api.Ins
	api.Row
}

// end is a temporary, and the place where an instruction takes it, or gives it to.
type end struct {
	temp int
	at   api.Place
}

func single(n int) api.Place { return api.Place{Kind: api.KSingle, N: n} }
func double(n int) api.Place { return api.Place{Kind: api.KDouble, N: n} }
func slot(n int) api.Place   { return api.Place{Kind: api.KSlot, N: n} }

func in1(temp, n int) end { return end{temp, single(n)} }
func in2(temp, n int) end { return end{temp, double(n)} }

func do(op int, dest, a, b end) line {
	return line{api.Ins{Op: op, Dest: dest.temp, A: a.temp, B: b.temp}, api.Row{Dest: dest.at, A: a.at, B: b.at}}
}

func in(dest end) line         { return do(api.XIn, dest, end{}, end{}) }
func out(a end) line           { return do(api.XOut, end{}, a, end{}) }
func copied(dest, a end) line  { return do(api.XMove, dest, a, end{}) }
func pair(dest, a, b end) line { return do(api.XPair, dest, a, b) }
func halt() line               { return do(api.XHalt, end{}, end{}, end{}) }
func jump(c int) line          { return leading(do(api.XJump, end{}, end{}, end{}), c) }
func onIf(a end, c int) line   { return leading(do(api.XIf, end{}, a, end{}), c) }

func leading(l line, c int) line {
	l.C = c
	return l
}

func give(dest end, n uint32) line {
	l := do(api.XConst, dest, end{}, end{})
	l.N = n
	return l
}

func (l line) before(moves ...api.Move) line {
	l.Before = moves
	return l
}

func (l line) after(moves ...api.Move) line {
	l.After = moves
	return l
}

func move(to, from api.Place) api.Move   { return api.Move{To: to, From: from} }
func constant(to int, n uint32) api.Move { return api.Move{To: single(to), Const: true, N: n} }
func target(singles int) api.Target      { return api.Target{Singles: singles} }

// idle changes nothing but by its moves; what it takes may be anywhere, as far as facts go.
func idle() line { return out(in1(t0, 0)) }

func laid(lines ...line) (api.Prog, api.Placed) {
	p := api.Prog{Wide: []bool{t0: false, t1: false, t2: true, t3: true}}
	l := api.Placed{Slots: slots}
	for _, one := range lines {
		p.Code = append(p.Code, one.Ins)
		l.Rows = append(l.Rows, one.Row)
	}
	return p, l
}

// blank leaves no facts: what comes in is not known, and 77 is no number of the programs of lines.
func blank() []line {
	none := pair(in2(t3, 0), in1(t0, 0), in1(t0, 0)).after(constant(0, 77), constant(1, 77), constant(2, 77), constant(3, 77), move(slot(0), single(0)), move(slot(1), single(0)))
	return []line{in(in1(t0, 0)), in(in1(t1, 0)), pair(in2(t2, 0), in1(t0, 0), in1(t0, 0)), none}
}

// text writes facts like this: t0=5 (t0 is 5), s1=5, k1=5 (the single register 1, slot 1 is 5), s1:t0, d1:t2, k1:t2 (these have t0 or t2).
func text(facts []api.Fact) string {
	var words []string
	for _, f := range facts {
		words = append(words, word(f))
	}
	return strings.Join(words, " ")
}

func word(f api.Fact) string {
	if f.At.Kind < 0 || f.At.Kind > api.KSlot {
		return fmt.Sprintf("(of no place: %v)", f)
	}
	place := fmt.Sprintf("%c%d", "-sdk"[f.At.Kind], f.At.N)
	switch f {
	case api.Fact{Temp: true, T: f.T, N: f.N}:
		return fmt.Sprintf("t%d=%d", f.T, f.N)
	case api.Fact{At: f.At, N: f.N}:
		return fmt.Sprintf("%s=%d", place, f.N)
	case api.Fact{At: f.At, Temp: true, T: f.T}:
		return fmt.Sprintf("%s:t%d", place, f.T)
	}
	return fmt.Sprintf("(of no kind: %v)", f)
}

func factsOf(t *testing.T, p api.Prog, on api.Target, l api.Placed) [][]api.Fact {
	t.Helper()
	got, e := Facts(p, on, l)
	if e != api.OK || len(got) != len(p.Code) {
		t.Fatalf("Facts(%v, %v, %v) = %v, %d, want facts of %d instructions", p, on, l, got, e, len(p.Code))
	}
	return got
}

// expectAhead asks for the facts ahead of an instruction, as text tells them.
func expectAhead(t *testing.T, at int, want string, lines ...line) {
	t.Helper()
	p, l := laid(lines...)
	if got := text(factsOf(t, p, target(singles), l)[at]); got != want {
		t.Errorf("Facts(%v, %v)[%d] =\n%s, want\n%s", p, l, at, got, want)
	}
}

// expectBehind asks for the facts behind the lines, ahead of which there are none.
func expectBehind(t *testing.T, want string, lines ...line) {
	t.Helper()
	all := slices.Concat(blank(), lines, []line{halt()})
	expectAhead(t, len(all)-1, want, all...)
}

// expectMoved has the moves behind the lines, be it ahead of an instruction or behind one.
func expectMoved(t *testing.T, want string, lines []line, moves ...api.Move) {
	t.Helper()
	next := len(blank()) + len(lines) + 1
	for _, last := range []line{idle().before(moves...), idle().after(moves...), jump(next).before(moves...)} {
		expectBehind(t, want, append(slices.Clone(lines), last)...)
	}
}

func expectTakes(t *testing.T, want bool, lines ...line) {
	t.Helper()
	p, l := laid(lines...)
	if got := Takes(p, target(singles), l); got != want {
		t.Errorf("Takes(%v, %v) = %v, want %v", p, l, got, want)
	}
}
