package build

import (
	"testing"

	"loanbook/api"
	"loanbook/layout"
)

// The temporaries of a crowd: the first ones are narrow, the others wide; with what fills them and brings them out, and one instruction between, they make MaxCode instructions.
const (
	crowdNarrow = 7
	crowdWide   = 5
)

func crowdTemps() []bool { return append(allNarrow(crowdNarrow), allWide(crowdWide)...) }

// crowded has an instruction ahead of which each temporary was given, and behind which, if it goes on there, each one comes out.
func crowded(i api.Ins) api.Prog {
	p := api.Prog{Wide: crowdTemps()}
	for k := range crowdNarrow {
		p.Code = append(p.Code, in(k))
	}
	for k := range crowdWide {
		p.Code = append(p.Code, pair(crowdNarrow+k, k, k+1))
	}
	p.Code = append(p.Code, i)
	for k := range crowdNarrow {
		p.Code = append(p.Code, out(k))
	}
	for k := range crowdWide {
		p.Code = append(p.Code, low(k, crowdNarrow+k), out(k), high(k, crowdNarrow+k), out(k))
	}
	return p
}

func TestCrowdIsAtTheLimits(t *testing.T) {
	if p := crowded(halt()); len(p.Wide) != api.MaxTemps || len(p.Code) != api.MaxCode || !layout.May(p) {
		t.Errorf("%d temporaries and %d instructions, want %d and %d, and a program that may be", len(p.Wide), len(p.Code), api.MaxTemps, api.MaxCode)
	}
}

// expectCrowded asks with nothing that comes in, with less than fills the crowd, and with more.
func expectCrowded(t *testing.T, i api.Ins) {
	t.Helper()
	p := crowded(i)
	for _, singles := range targets() {
		l := built(t, p, singles)
		for _, ins := range [][]uint32{nil, {0, 2, 2, 1 << 16}, {1 << 31, 9, max32, 0, 5, 1, 77, 3}} {
			for _, steps := range []int{0, 15, 200} {
				expectShows(t, p, singles, l, ins, steps)
			}
		}
	}
}

// fews are temporaries of each width, such as come first and last.
func fews() (narrow, wide []int) {
	return []int{0, 3, crowdNarrow - 1}, []int{crowdNarrow, crowdNarrow + 2, crowdNarrow + crowdWide - 1}
}

// TestEachTakingTwo: Dest, A and B may be three, or any of them the same.
func TestEachTakingTwo(t *testing.T) {
	narrow, wide := fews()
	expectAll := func(op int, dests, takes []int) {
		for _, d := range dests {
			for _, a := range takes {
				for _, b := range takes {
					expectCrowded(t, three(op, d, a, b))
				}
			}
		}
	}
	for _, op := range narrowOps() {
		expectAll(op, narrow, narrow)
	}
	for _, op := range wideOps() {
		expectAll(op, wide, wide)
	}
	expectAll(api.XPair, wide, narrow)
}

func TestEachTakingOne(t *testing.T) {
	narrow, wide := fews()
	expectAll := func(op int, dests, takes []int) {
		for _, d := range dests {
			for _, a := range takes {
				expectCrowded(t, three(op, d, a, 0))
			}
		}
	}
	expectAll(api.XMove, narrow, narrow)
	expectAll(api.XMove, wide, wide)
	expectAll(api.XLow, narrow, wide)
	expectAll(api.XHigh, narrow, wide)
	expectAll(api.XOut, []int{0}, narrow)
}

func TestEachTakingNone(t *testing.T) {
	narrow, _ := fews()
	for _, d := range narrow {
		expectCrowded(t, in(d))
		expectCrowded(t, give(d, 0))
		expectCrowded(t, give(d, 7))
		expectCrowded(t, give(d, max32))
	}
	expectCrowded(t, halt())
}

// TestEachLeading: to each instruction, the first one, itself and the last one among them.
func TestEachLeading(t *testing.T) {
	narrow, _ := fews()
	for c := range api.MaxCode {
		expectCrowded(t, jump(c))
		for _, a := range narrow {
			expectCrowded(t, onIf(a, c))
		}
	}
}
