package layout

import (
	"math"
	"slices"
	"testing"

	"loanbook/api"
)

func TestHas(t *testing.T) {
	ops := []int{math.MinInt, math.MaxInt, api.XHalt + 1<<32}
	for op := -50; op <= 100; op++ {
		ops = append(ops, op)
	}
	for _, op := range ops {
		named, _ := rowOf(op)
		_, wantDest := named["Dest"]
		_, wantA := named["A"]
		_, wantB := named["B"]
		if dest, a, b := Has(op); dest != wantDest || a != wantA || b != wantB {
			t.Errorf("Has(%d) = %v, %v, %v, want %v, %v, %v", op, dest, a, b, wantDest, wantA, wantB)
		}
	}
}

func expectOn(t *testing.T, p api.Prog, at int, want ...int) {
	t.Helper()
	got := slices.Sorted(slices.Values(GoesOn(p, at)))
	if !slices.Equal(slices.Compact(got), want) {
		t.Errorf("GoesOn(%v, %d) = %v, want %v", p, at, got, want)
	}
}

func TestGoesOn(t *testing.T) {
	for _, i := range good() {
		switch i.Op {
		case api.XJump, api.XIf, api.XHalt:
			continue
		}
		expectOn(t, with(i), 1, 2)
		expectOn(t, api.Prog{Wide: temps(), Code: []api.Ins{i}}, 0)
	}
	for c := range 3 {
		expectOn(t, with(api.Ins{Op: api.XJump, C: c}), 1, c)
	}
	expectOn(t, with(api.Ins{Op: api.XIf, A: n1, C: 0}), 1, 0, 2)
	expectOn(t, with(api.Ins{Op: api.XIf, A: n1, C: 1}), 1, 1, 2)
	expectOn(t, with(api.Ins{Op: api.XIf, A: n1, C: 2}), 1, 2)
	expectOn(t, with(api.Ins{Op: api.XHalt}), 1)
	expectOn(t, api.Prog{Wide: temps(), Code: []api.Ins{{Op: api.XIf}}}, 0, 0)
}

func TestGoesOnWhereNothingIs(t *testing.T) {
	p := with(api.Ins{Op: api.XIn})
	for _, at := range []int{-1, -2, 3, 4, math.MaxInt, math.MinInt} {
		expectOn(t, p, at)
		expectOn(t, api.Prog{}, at)
	}
	for _, c := range []int{-1, 3, math.MaxInt, math.MinInt} {
		expectOn(t, with(api.Ins{Op: api.XJump, C: c}), 1)
		expectOn(t, with(api.Ins{Op: api.XIf, C: c}), 1, 2)
	}
}
