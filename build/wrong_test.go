package build

import (
	"math"
	"slices"
	"testing"

	"loanbook/api"
)

// wrongTargets has Singles that are odd, too few, below 0, and beyond MaxSingles.
func wrongTargets() []int {
	return []int{
		1, 3, 5, 7, 9, 11, 13, api.MaxSingles - 1,
		0, 2, -1, -2, -3, -4, -6, -api.MaxSingles, math.MinInt, math.MinInt + 1, math.MinInt + 8,
		api.MaxSingles + 1, api.MaxSingles + 2, api.MaxSingles + 4, 2 * api.MaxSingles, 1000, math.MaxInt, math.MaxInt - 1,
		1 << 8, 1<<8 + 4, 1<<16 + 4, 1<<32 + 4,
	}
}

func wrongPrograms() []api.Prog {
	code := []api.Ins{out(n0), out(n1)}
	return []api.Prog{
		{},
		{Wide: temps()},
		{Code: code},
		{Code: []api.Ins{halt()}},
		{Wide: []bool{}, Code: []api.Ins{halt()}},
		{Wide: temps(), Code: []api.Ins{}},
		{Wide: make([]bool, api.MaxTemps+1), Code: code},
		{Wide: make([]bool, 1), Code: code},
		{Wide: temps(), Code: slices.Repeat([]api.Ins{out(n0)}, api.MaxCode+1)},
		prog(api.Ins{}),
		prog(out(n0), out(n1), api.Ins{Op: 11}),
		prog(api.Ins{Op: -1}),
		prog(api.Ins{Op: api.XOp}),
		prog(api.Ins{Op: api.XWide}),
		prog(api.Ins{Op: math.MinInt}),
		prog(api.Ins{Op: math.MaxInt, Dest: math.MinInt, A: math.MaxInt, B: -1, C: -1, N: 1}),
		prog(three(api.XOp+api.OpLess+1, n0, n0, n0)),
		prog(three(api.XWide+api.OpLess, w0, w0, w0)),
		prog(in(w0), out(n0)),
		prog(in(6), out(n0)),
		prog(in(-1), out(n0)),
		prog(out(w0)),
		prog(out(math.MinInt)),
		prog(move(n0, w0)),
		prog(move(w0, n0)),
		prog(pair(n0, n0, n0)),
		prog(pair(w0, n0, w0)),
		prog(low(n0, n0)),
		prog(add(n0, n0, w0)),
		prog(addWide(w0, w0, n0)),
		prog(jump(1)),
		prog(jump(-1)),
		prog(onIf(n0, math.MaxInt)),
		prog(onIf(w0, 0)),
		prog(halt(), in(w0)), // where no way leads, too
		prog(out(n0), out(n1), api.Ins{Op: api.XHalt, N: 1}),
		prog(out(n0), out(n1), api.Ins{Op: api.XHalt, Dest: 1}),
		prog(api.Ins{Op: api.XIn, A: 1}),
	}
}

func expectErrForm(t *testing.T, p api.Prog, singles int) {
	t.Helper()
	if l, e := Build(p, target(singles)); e != api.ErrForm || l.Slots != 0 || len(l.Rows) != 0 {
		t.Errorf("Build(%v, %d) = %v, %d, want nothing, ErrForm", p, singles, l, e)
	}
}

func TestWrongPrograms(t *testing.T) {
	for _, p := range wrongPrograms() {
		for _, singles := range slices.Concat(targets(), wrongTargets()) {
			expectErrForm(t, p, singles)
		}
	}
}

func TestWrongTargets(t *testing.T) {
	for _, p := range []api.Prog{
		prog(halt()),
		prog(in(n0), in(n1), pair(w0, n0, n1), low(n2, w0), out(n2)),
		one(false, in(0), out(0)),
		one(true, move(0, 0)),
		crowded(addWide(crowdNarrow, crowdNarrow+1, crowdNarrow+2)),
	} {
		for _, singles := range wrongTargets() {
			expectErrForm(t, p, singles)
		}
	}
}
