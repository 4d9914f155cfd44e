package color

import (
	"slices"
	"strings"
	"testing"

	"loanbook/api"
)

// Temporaries of the programs below: n0 to n2 are narrow, w0 to w2 wide.
const (
	n0 = 0
	n1 = 1
	n2 = 2
	w0 = 3
	w1 = 4
	w2 = 5
)

const names = "abcxyz"

func temps() []bool { return []bool{false, false, false, true, true, true} }

func prog(code ...api.Ins) api.Prog { return api.Prog{Wide: temps(), Code: code} }

func in(dest int) api.Ins      { return api.Ins{Op: api.XIn, Dest: dest} }
func out(a int) api.Ins        { return api.Ins{Op: api.XOut, A: a} }
func give(dest int) api.Ins    { return api.Ins{Op: api.XConst, Dest: dest, N: 7} }
func move(dest, a int) api.Ins { return api.Ins{Op: api.XMove, Dest: dest, A: a} }
func low(dest, a int) api.Ins  { return api.Ins{Op: api.XLow, Dest: dest, A: a} }
func jump(c int) api.Ins       { return api.Ins{Op: api.XJump, C: c} }
func onIf(a, c int) api.Ins    { return api.Ins{Op: api.XIf, A: a, C: c} }
func halt() api.Ins            { return api.Ins{Op: api.XHalt} }

func three(op, dest, a, b int) api.Ins { return api.Ins{Op: op, Dest: dest, A: a, B: b} }
func pair(dest, a, b int) api.Ins      { return three(api.XPair, dest, a, b) }
func add(dest, a, b int) api.Ins       { return three(api.XOp+api.OpAdd, dest, a, b) }
func addWide(dest, a, b int) api.Ins   { return three(api.XWide+api.OpAdd, dest, a, b) }

// evens has all numbers of single registers that may be.
func evens() []int { return []int{0, 2, 4, 6, 8, 10, 12, 14, 16} }

// has lists the single registers of a register: two that have one in common overlap.
func has(l api.Place) []int {
	switch l.Kind {
	case api.KSingle:
		return []int{l.N}
	case api.KDouble:
		return []int{2 * l.N, 2*l.N + 1}
	}
	return nil
}

func common(a, b api.Place) bool {
	return slices.ContainsFunc(has(a), func(n int) bool { return slices.Contains(has(b), n) })
}

// made asks for registers, of each temporary one of its width that is there, or an empty Place.
func made(t *testing.T, p api.Prog, singles int) []api.Place {
	t.Helper()
	got, e := Make(p, singles)
	if e != api.OK || len(got) != len(p.Wide) {
		t.Fatalf("Make(%v, %d) = %v, %d, want as many as there are temporaries, OK", p, singles, got, e)
	}
	for k, l := range got {
		kind, below := api.KSingle, singles
		if p.Wide[k] {
			kind, below = api.KDouble, singles/2
		}
		isRegister := l.Kind == kind && l.N >= 0 && l.N < below
		if !isRegister && l != (api.Place{}) {
			t.Fatalf("Make(%v, %d) = %v: that of %d is no register of its width, nor empty", p, singles, got, k)
		}
	}
	return got
}

// count tells how many have a register.
func count(list []api.Place) int {
	sum := 0
	for _, l := range list {
		if l.Kind != api.KNone {
			sum++
		}
	}
	return sum
}

// expect asks, for all numbers of single registers, that those two of which letters are given are apart, and that from least on all temporaries have a register.
func expect(t *testing.T, p api.Prog, least int, pairs string) {
	t.Helper()
	for _, singles := range evens() {
		got := made(t, p, singles)
		if singles >= least && count(got) != len(got) {
			t.Errorf("Make(%v, %d) = %v: there is room for all", p, singles, got)
		}
		for _, both := range strings.Fields(pairs) {
			one, other := strings.Index(names, both[:1]), strings.Index(names, both[1:])
			if common(got[one], got[other]) {
				t.Errorf("Make(%v, %d) = %v: %s are near, but overlap", p, singles, got, both)
			}
		}
	}
}

func TestNoneIsNear(t *testing.T) {
	expect(t, prog(halt()), 2, "")
	expect(t, prog(in(n0), out(n0), in(n1), out(n1), in(n2), out(n2)), 2, "")
	expect(t, prog(in(n0), pair(w0, n0, n0), move(w1, w0), addWide(w2, w1, w1), low(n1, w2), move(n2, n1), out(n2)), 2, "")
	expect(t, prog(in(n0), move(n1, n0), out(n1), out(n0)), 2, "")
	expect(t, prog(halt(), move(w1, w0), addWide(w2, w0, w1)), 2, "")
}

// TestTheSame: six in two single registers, so that some must have the same one, or halves of one another's.
func TestTheSame(t *testing.T) {
	got := made(t, prog(in(n0), pair(w0, n0, n0), move(w1, w0), addWide(w2, w1, w1), low(n1, w2), move(n2, n1), out(n2)), 2)
	double := api.Place{Kind: api.KDouble}
	for k, l := range got {
		if isWide := k >= w0; isWide && l != double || !isWide && !common(l, double) {
			t.Errorf("%d has %v, want the only ones that there are", k, l)
		}
	}
}

func TestNarrowAndNarrow(t *testing.T) {
	expect(t, prog(in(n0), in(n1), add(n2, n0, n1), out(n2)), 2, "ab")
	expect(t, prog(in(n0), in(n1), out(n1), out(n0)), 2, "ab")
	expect(t, prog(in(n1), in(n0), out(n1), out(n0)), 2, "ab")
	expect(t, prog(in(n0), in(n1), in(n2), out(n0), out(n1), out(n2)), 4, "ab ac bc")
	expect(t, prog(in(n0), in(n1), out(n0), in(n2), out(n1), out(n2)), 2, "ab bc")
	expect(t, prog(in(n0), give(n1), out(n0)), 2, "ab")
	expect(t, prog(out(n0), out(n1)), 2, "ab")
}

func TestWideAndWide(t *testing.T) {
	expect(t, prog(addWide(w0, w1, w2), low(n0, w0), out(n0)), 4, "yz")
	expect(t, prog(addWide(w0, w1, w2), addWide(w0, w0, w1)), 4, "yz xy")
	expect(t, prog(addWide(w0, w0, w1), addWide(w0, w0, w2)), 6, "xy xz yz")
	expect(t, prog(halt(), pair(w0, n0, n0), pair(w1, n0, n0), addWide(w2, w0, w1)), 4, "ax xy")
}

// TestNarrowAndWide: a single register may not be half of a double one, be it the lower or the upper one.
func TestNarrowAndWide(t *testing.T) {
	expect(t, prog(in(n0), pair(w0, n0, n0), low(n1, w0), out(n0), out(n1)), 4, "ax ab")
	expect(t, prog(halt(), low(n1, w0), low(n2, w0), out(n1), out(n2)), 4, "bx bc")
	expect(t, prog(in(n0), in(n1), pair(w0, n0, n1), low(n2, w0), out(n0), out(n1), out(n2)), 4, "ab ax bx ac bc")
	expect(t, prog(halt(), in(n0), addWide(w0, w1, w2), out(n0)), 4, "ax ay az")
	expect(t, prog(out(n0), out(n1), out(n2), addWide(w0, w1, w2)), 8, "ab ac bc ay az by bz cy cz yz")
}

// TestOneOfBoth: of a narrow and a wide one that are near, two single registers can hold only one.
func TestOneOfBoth(t *testing.T) {
	for _, p := range []api.Prog{
		{Wide: []bool{false, true}, Code: []api.Ins{out(0), low(0, 1)}},
		{Wide: []bool{true, false}, Code: []api.Ins{out(1), low(1, 0)}},
		{Wide: []bool{true, true}, Code: []api.Ins{addWide(0, 0, 1)}},
	} {
		for _, singles := range evens() {
			got := made(t, p, singles)
			if common(got[0], got[1]) {
				t.Errorf("Make(%v, %d) = %v: they overlap", p, singles, got)
			}
			if want := min(2, singles/2); count(got) != want {
				t.Errorf("Make(%v, %d) = %v, want registers of %d", p, singles, got, want)
			}
		}
	}
}

func TestLoops(t *testing.T) {
	expect(t, prog(in(n0), give(n1), out(n0), add(n0, n0, n1), jump(2)), 2, "ab")
	expect(t, prog(in(n0), in(n1), out(n1), onIf(n0, 1), halt()), 2, "ab")
	expect(t, prog(jump(3), out(n0), halt(), in(n1), jump(1)), 2, "ab")
	expect(t, prog(in(n0), out(n0), in(n1), out(n1), jump(0)), 2, "")
	expect(t, prog(in(n0), in(n1), addWide(w0, w0, w1), onIf(n1, 2), onIf(n0, 1), low(n2, w0), out(n2)), 6, "ab ax ay bx by xy")
	expect(t, prog(jump(0)), 2, "")
}

// TestWhereNoWayLeads: code that is never come to makes near what it gives, and what is needed behind it.
func TestWhereNoWayLeads(t *testing.T) {
	expect(t, prog(halt(), in(n0), out(n1)), 2, "ab")
	expect(t, prog(jump(0), in(n0), low(n1, w0), out(n0)), 4, "ab ax")
	expect(t, prog(in(n2), halt(), addWide(w0, w1, w1), addWide(w2, w1, w0)), 4, "xy")
	expect(t, prog(jump(3), in(n0), out(n1), out(n2), halt()), 4, "ab ac")
}
