package color

import (
	"math"
	"slices"
	"testing"

	"loanbook/api"
)

// wrongSingles has numbers that are odd, below 0, and beyond MaxSingles.
func wrongSingles() []int {
	return []int{
		1, 3, 5, 7, 9, 11, 13, api.MaxSingles - 1,
		-1, -2, -3, -4, -api.MaxSingles, math.MinInt, math.MinInt + 1,
		api.MaxSingles + 1, api.MaxSingles + 2, 2 * api.MaxSingles, 1000, math.MaxInt, math.MaxInt - 1,
		1 << 8, 1<<8 + 4, 1<<16 + 4, math.MinInt + 8,
	}
}

func wrongPrograms() []api.Prog {
	code := []api.Ins{out(n0), out(n1)}
	return []api.Prog{
		{},
		{Wide: temps()},
		{Code: code},
		{Code: []api.Ins{halt()}},
		{Wide: []bool{}, Code: []api.Ins{halt()}},
		{Wide: temps(), Code: []api.Ins{}},
		{Wide: make([]bool, api.MaxTemps+1), Code: code},
		{Wide: make([]bool, 1), Code: code},
		{Wide: temps(), Code: slices.Repeat(code, api.MaxCode/2+1)},
		prog(api.Ins{}),
		prog(out(n0), out(n1), api.Ins{Op: 11}),
		prog(api.Ins{Op: api.XOp}),
		prog(api.Ins{Op: math.MinInt}),
		prog(api.Ins{Op: math.MaxInt, Dest: math.MinInt, A: math.MaxInt, B: -1, C: -1, N: 1}),
		prog(three(api.XWide+api.OpLess, w0, w0, w0)),
		prog(in(w0), out(n0)),
		prog(in(6), out(n0)),
		prog(in(-1), out(n0)),
		prog(out(math.MinInt)),
		prog(move(n0, w0)),
		prog(pair(n0, n0, n0)),
		prog(low(n0, n0)),
		prog(jump(1)),
		prog(jump(-1)),
		prog(onIf(n0, math.MaxInt)),
		prog(out(n0), out(n1), api.Ins{Op: api.XHalt, N: 1}),
		prog(out(n0), out(n1), api.Ins{Op: api.XHalt, Dest: 1}),
	}
}

// TestWrongPrograms: they are told ahead of wrong numbers of single registers.
func TestWrongPrograms(t *testing.T) {
	for _, p := range wrongPrograms() {
		for _, singles := range slices.Concat(evens(), wrongSingles()) {
			if got, e := Make(p, singles); e != api.ErrForm || len(got) != 0 {
				t.Errorf("Make(%v, %d) = %v, %d, want nothing, ErrForm", p, singles, got, e)
			}
		}
	}
}

func TestWrongSingles(t *testing.T) {
	for _, p := range []api.Prog{
		prog(halt()),
		prog(in(n0), in(n1), pair(w0, n0, n1), low(n2, w0), out(n2)),
		narrows(1), wides(1),
		narrows(api.MaxTemps), wides(api.MaxTemps),
	} {
		for _, singles := range wrongSingles() {
			if got, e := Make(p, singles); e != api.ErrRange || len(got) != 0 {
				t.Errorf("Make(%v, %d) = %v, %d, want nothing, ErrRange", p, singles, got, e)
			}
		}
	}
}

// narrows is a program of so many narrow temporaries, all near.
func narrows(temps int) api.Prog {
	p := api.Prog{Wide: make([]bool, temps)}
	for k := range temps {
		p.Code = append(p.Code, out(k))
	}
	return p
}

// wides is a program of so many wide temporaries, all near.
func wides(temps int) api.Prog {
	p := api.Prog{Wide: slices.Repeat([]bool{true}, temps)}
	for k := range temps {
		p.Code = append(p.Code, addWide(0, 0, k))
	}
	return p
}

// mixed is a program of so many temporaries, all near, and wide as a bit of which tells; the first is narrow, as there must be one that a wide one's half goes to.
func mixed(temps int, which uint) api.Prog {
	p := api.Prog{Wide: make([]bool, temps), Code: []api.Ins{out(0)}}
	for k := 1; k < temps; k++ {
		p.Wide[k] = which>>k&1 == 1
		if p.Wide[k] {
			p.Code = append(p.Code, low(0, k))
		} else {
			p.Code = append(p.Code, out(k))
		}
	}
	return p
}

func expectAllApart(t *testing.T, p api.Prog, singles int, got []api.Place) {
	t.Helper()
	var all []int
	for _, l := range got {
		all = append(all, has(l)...)
	}
	slices.Sort(all)
	if len(slices.Compact(slices.Clone(all))) != len(all) {
		t.Errorf("Make(%v, %d) = %v: all are near, but some overlap", p, singles, got)
	}
}

func TestNoRegisters(t *testing.T) {
	for _, p := range []api.Prog{prog(halt()), narrows(1), wides(1), narrows(api.MaxTemps), wides(api.MaxTemps), mixed(api.MaxTemps, 0xaaa)} {
		if got := made(t, p, 0); count(got) != 0 {
			t.Errorf("Make(%v, 0) = %v, want empty ones", p, got)
		}
	}
}

func TestOneTemp(t *testing.T) {
	for _, p := range []api.Prog{
		narrows(1), wides(1),
		{Wide: []bool{false}, Code: []api.Ins{halt()}},
		{Wide: []bool{true}, Code: []api.Ins{halt()}},
		{Wide: []bool{false}, Code: []api.Ins{in(0), onIf(0, 0), jump(0)}},
		{Wide: []bool{true}, Code: []api.Ins{move(0, 0), jump(0)}},
		{Wide: []bool{false}, Code: slices.Repeat([]api.Ins{in(0), out(0)}, api.MaxCode/2)},
	} {
		for _, singles := range evens() {
			if got := made(t, p, singles); count(got) != min(1, singles) {
				t.Errorf("Make(%v, %d) = %v", p, singles, got)
			}
		}
	}
}

// TestAllNarrow: as many as there are single registers have one, each one of its own.
func TestAllNarrow(t *testing.T) {
	for temps := 1; temps <= api.MaxTemps; temps++ {
		for _, singles := range evens() {
			p := narrows(temps)
			got := made(t, p, singles)
			expectAllApart(t, p, singles, got)
			if want := min(temps, singles); count(got) != want {
				t.Errorf("Make(%v, %d) = %v, want registers of %d", p, singles, got, want)
			}
		}
	}
}

func TestAllWide(t *testing.T) {
	for temps := 1; temps <= api.MaxTemps; temps++ {
		for _, singles := range evens() {
			p := wides(temps)
			got := made(t, p, singles)
			expectAllApart(t, p, singles, got)
			if want := min(temps, singles/2); count(got) != want {
				t.Errorf("Make(%v, %d) = %v, want registers of %d", p, singles, got, want)
			}
		}
	}
}

// TestAllMixed: each width that the temporaries may have, from few to more than there are registers.
func TestAllMixed(t *testing.T) {
	for _, temps := range []int{2, 5, api.MaxTemps} {
		for which := uint(0); which < 1<<temps; which += 2 {
			p := mixed(temps, which)
			for _, singles := range evens() {
				got := made(t, p, singles)
				expectAllApart(t, p, singles, got)
				if need := 2 * temps; singles >= need && count(got) != temps {
					t.Errorf("Make(%v, %d) = %v: there is room for all", p, singles, got)
				}
			}
		}
	}
}

// TestMost: of MaxTemps temporaries in MaxCode instructions, each is near to the two ahead of it and to the two behind it alone.
func TestMost(t *testing.T) {
	p := api.Prog{Wide: make([]bool, api.MaxTemps)}
	for k := range api.MaxTemps {
		p.Code = append(p.Code, in(k), out(k))
		if k >= 2 {
			p.Code = append(p.Code, out(k-2))
		}
	}
	p.Code = append(p.Code, out(api.MaxTemps-2), out(api.MaxTemps-1))
	for len(p.Code) < api.MaxCode {
		p.Code = append(p.Code, halt())
	}
	for _, singles := range evens() {
		got := made(t, p, singles)
		for k := 2; k < len(got); k++ {
			if common(got[k], got[k-1]) || common(got[k], got[k-2]) {
				t.Errorf("Make(%v, %d) = %v: %d overlaps one that is near", p, singles, got, k)
			}
		}
		if singles >= 4 && count(got) != len(got) {
			t.Errorf("Make(%v, %d) = %v: three are enough", p, singles, got)
		}
	}
}
