package build

import (
	"reflect"
	"slices"
	"testing"

	"loanbook/api"
	"loanbook/check"
	"loanbook/done"
	"loanbook/place"
	"loanbook/run"
)

const max32 = 1<<32 - 1

func in(dest int) api.Ins             { return api.Ins{Op: api.XIn, Dest: dest} }
func out(a int) api.Ins               { return api.Ins{Op: api.XOut, A: a} }
func give(dest int, n uint32) api.Ins { return api.Ins{Op: api.XConst, Dest: dest, N: n} }
func move(dest, a int) api.Ins        { return api.Ins{Op: api.XMove, Dest: dest, A: a} }
func low(dest, a int) api.Ins         { return api.Ins{Op: api.XLow, Dest: dest, A: a} }
func high(dest, a int) api.Ins        { return api.Ins{Op: api.XHigh, Dest: dest, A: a} }
func jump(c int) api.Ins              { return api.Ins{Op: api.XJump, C: c} }
func onIf(a, c int) api.Ins           { return api.Ins{Op: api.XIf, A: a, C: c} }
func halt() api.Ins                   { return api.Ins{Op: api.XHalt} }

func three(op, dest, a, b int) api.Ins { return api.Ins{Op: op, Dest: dest, A: a, B: b} }
func pair(dest, a, b int) api.Ins      { return three(api.XPair, dest, a, b) }
func add(dest, a, b int) api.Ins       { return three(api.XOp+api.OpAdd, dest, a, b) }
func sub(dest, a, b int) api.Ins       { return three(api.XOp+api.OpSub, dest, a, b) }
func addWide(dest, a, b int) api.Ins   { return three(api.XWide+api.OpAdd, dest, a, b) }

// narrowOps and wideOps are the operations of each width.
func narrowOps() []int {
	return []int{api.XOp + api.OpAdd, api.XOp + api.OpSub, api.XOp + api.OpMul, api.XOp + api.OpAnd, api.XOp + api.OpXor, api.XOp + api.OpLess}
}

func wideOps() []int {
	return []int{api.XWide + api.OpAdd, api.XWide + api.OpSub, api.XWide + api.OpMul, api.XWide + api.OpAnd, api.XWide + api.OpXor}
}

// targets has the Singles of each target that may be.
func targets() []int { return []int{4, 6, 8, 10, 12, 14, api.MaxSingles} }

func target(singles int) api.Target { return api.Target{Singles: singles} }

// someIns has none, few, and more than any program here asks for; and more than may be.
func someIns() [][]uint32 {
	many := make([]uint32, api.MaxIns+1)
	for k := range many {
		many[k] = uint32(k+1) * 0x9e3779b9
	}
	return [][]uint32{nil, {0}, {3}, {2, 0, max32}, {1, 2, 3, 4, 5, 6, 7}, many[:api.MaxIns], many}
}

// someSteps has none, few, and many; and such as may not be.
func someSteps() []int { return []int{-1, 0, 1, 2, 5, 13, 39, 40, 90, api.MaxSteps, api.MaxSteps + 1} }

// built asks for places that may be and are taken.
func built(t *testing.T, p api.Prog, singles int) api.Placed {
	t.Helper()
	l, e := Build(p, target(singles))
	if e != api.OK {
		t.Fatalf("Build(%v, %d) = %v, %d, want OK", p, singles, l, e)
	}
	if !place.May(p, target(singles), l) {
		t.Fatalf("Build(%v, %d) = %v, which may not be", p, singles, l)
	}
	if !check.Takes(p, target(singles), l) {
		t.Fatalf("Build(%v, %d) = %v, which is not taken", p, singles, l)
	}
	return l
}

// expectShows asks that the program in its places shows what it shows without them.
func expectShows(t *testing.T, p api.Prog, singles int, l api.Placed, ins []uint32, steps int) api.Shown {
	t.Helper()
	want, wantErr := run.Run(p, ins, steps)
	got, e := done.Run(p, target(singles), l, ins, steps)
	if e != wantErr || got.State != want.State || got.Steps != want.Steps || !slices.Equal(got.Out, want.Out) {
		t.Fatalf("Build(%v, %d) = %v shows %v, %d, want %v, %d, with %v and %d steps", p, singles, l, got, e, want, wantErr, ins, steps)
	}
	return got
}

// expectBuilt asks, of each target that may be, all that is promised of the places.
func expectBuilt(t *testing.T, p api.Prog) {
	t.Helper()
	for _, singles := range targets() {
		l := built(t, p, singles)
		if again := built(t, p, singles); !reflect.DeepEqual(l, again) {
			t.Fatalf("Build(%v, %d) = %v, and then %v", p, singles, l, again)
		}
		for _, ins := range someIns() {
			for _, steps := range someSteps() {
				expectShows(t, p, singles, l, ins, steps)
			}
		}
	}
}

// expectOut asks, of each target that may be, what comes out; what is wanted is written out, so that it does not hang on package run.
func expectOut(t *testing.T, p api.Prog, state int, ins, want []uint32) {
	t.Helper()
	expectBuilt(t, p)
	for _, singles := range targets() {
		got := expectShows(t, p, singles, built(t, p, singles), ins, 1000)
		if got.State != state || !slices.Equal(got.Out, want) {
			t.Errorf("%v on %d shows %v, want the state %d and %v", p, singles, got, state, want)
		}
	}
}
