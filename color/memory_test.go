package color

import (
	"slices"
	"testing"

	"loanbook/api"
)

func some() []api.Prog {
	return []api.Prog{
		prog(in(n0), onIf(n1, 0), out(n0)),
		prog(in(n0), in(n1)),
		prog(in(n0), in(n1), pair(w0, n0, n1), addWide(w1, w0, w0), addWide(w2, w1, w0), low(n2, w2), out(n2), out(n0)),
		prog(jump(0), jump(1)),
		mixed(6, 0x2a),
	}
}

func TestNothingIsChanged(t *testing.T) {
	for _, q := range append(some(), prog(jump(9)), api.Prog{}) {
		for _, singles := range append(evens(), -2, 5) {
			// More lies behind the lists' lengths: with it there would be more temporaries, and more of them near.
			wide := append(slices.Clone(q.Wide), false, true)
			code := append(slices.Clone(q.Code), out(n0), out(n1), api.Ins{Op: -1, N: 9})
			wasWide, wasCode := slices.Clone(wide), slices.Clone(code)
			first, firstErr := Make(api.Prog{Wide: wide[:len(q.Wide)], Code: code[:len(q.Code)]}, singles)
			if !slices.Equal(wide, wasWide) || !slices.Equal(code, wasCode) {
				t.Errorf("Make changed what was handed in, or what lies behind it: %v, %v", wide, code)
			}
			alone, aloneErr := Make(q, singles)
			if !slices.Equal(first, alone) || firstErr != aloneErr {
				t.Errorf("Make(%v, %d) = %v, %d, but %v, %d with more behind it", q, singles, alone, aloneErr, first, firstErr)
			}
		}
	}
}

// TestNewMemory writes over all of the list that came out, and then over what was handed in, and expects nothing else to change.
func TestNewMemory(t *testing.T) {
	for _, p := range some() {
		wide, code := slices.Clone(p.Wide), slices.Clone(p.Code)
		want := made(t, p, 6)
		was := slices.Clone(want)
		other := made(t, p, 6)
		other = other[:cap(other)]
		for k := range other {
			other[k] = api.Place{Kind: -1, N: -1}
		}
		if !slices.Equal(want, was) || !slices.Equal(made(t, p, 6), was) {
			t.Errorf("Make(%v, 6): what came out is shared", p)
		}
		if !slices.Equal(p.Wide, wide) || !slices.Equal(p.Code, code) {
			t.Errorf("what came out shares memory with what was handed in: %v", p)
		}
		clear(p.Code)
		p.Wide[0] = !p.Wide[0]
		if !slices.Equal(want, was) {
			t.Errorf("what came out hangs on what was handed in: %v", want)
		}
	}
}

// TestNothingIsKept: what was asked before has no say in what is answered.
func TestNothingIsKept(t *testing.T) {
	first := map[[2]int][]api.Place{}
	for range 20 {
		for k, p := range some() {
			for _, singles := range evens() {
				got := made(t, p, singles)
				was, asked := first[[2]int{k, singles}]
				if asked && !slices.Equal(got, was) {
					t.Errorf("Make(%v, %d) = %v, was %v", p, singles, got, was)
				}
				first[[2]int{k, singles}] = got
			}
			if _, e := Make(p, 3); e != api.ErrRange {
				t.Errorf("Make(%v, 3): %d, want ErrRange", p, e)
			}
			if _, e := Make(api.Prog{}, 4); e != api.ErrForm {
				t.Errorf("Make of no program: %d, want ErrForm", e)
			}
		}
	}
}
