package live

import (
	"slices"
	"testing"

	"loanbook/api"
)

// source is a row of numbers that looks like chance, and is the same each time.
type source uint64

func (r *source) below(n int) int {
	*r = *r*6364136223846793005 + 1442695040888963407
	return int(uint64(*r)>>33) % n
}

// of picks a temporary of the width, if there is one.
func (r *source) of(wide []bool, width bool) (int, bool) {
	var fit []int
	for k, w := range wide {
		if w == width {
			fit = append(fit, k)
		}
	}
	if len(fit) == 0 {
		return 0, false
	}
	return fit[r.below(len(fit))], true
}

// instruction is one that may stand in a program with these temporaries and so many instructions.
func (r *source) instruction(wide []bool, count int) api.Ins {
	ops := []int{1, 2, 3, 3, 4, 5, 6, 7, 8, 9, 9, 10, 21, 22, 23, 24, 25, 26, 41, 42, 43, 44, 45}
	for {
		n0, isNarrow := r.of(wide, false)
		n1, _ := r.of(wide, false)
		n2, _ := r.of(wide, false)
		w0, isWide := r.of(wide, true)
		w1, _ := r.of(wide, true)
		w2, _ := r.of(wide, true)
		op := ops[r.below(len(ops))]
		switch {
		case op == api.XJump:
			return jump(r.below(count))
		case op == api.XHalt:
			return halt()
		case op == api.XMove && isWide && r.below(2) == 0:
			return take(op, w0, w1, 0)
		case op > api.XWide && isWide:
			return take(op, w0, w1, w2)
		case !isNarrow || op > api.XWide:
			continue
		case op == api.XConst:
			return give(n0, uint32(r.below(9)))
		case op == api.XMove:
			return take(op, n0, n1, 0)
		case op == api.XIn:
			return in(n0)
		case op == api.XOut:
			return out(n0)
		case op == api.XIf:
			return onIf(n0, r.below(count))
		case op > api.XOp:
			return take(op, n0, n1, n2)
		case isWide && op == api.XPair:
			return take(op, w0, n0, n1)
		case isWide:
			return take(op, n0, w0, 0)
		}
	}
}

func (r *source) program(temps, count int) api.Prog {
	p := api.Prog{Wide: make([]bool, 1+r.below(temps)), Code: make([]api.Ins, 1+r.below(count))}
	for k := range p.Wide {
		p.Wide[k] = r.below(3) == 0
	}
	for k := range p.Code {
		p.Code[k] = r.instruction(p.Wide, len(p.Code))
	}
	return p
}

// taken and given are the table of B1, read apart from the program.
func taken(i api.Ins) []int {
	switch i.Op {
	case api.XConst, api.XIn, api.XJump, api.XHalt:
		return nil
	case api.XMove, api.XOut, api.XLow, api.XHigh, api.XIf:
		return []int{i.A}
	}
	return []int{i.A, i.B}
}

func given(i api.Ins) []int {
	switch i.Op {
	case api.XOut, api.XJump, api.XIf, api.XHalt:
		return nil
	}
	return []int{i.Dest}
}

// led is where an instruction goes on; it may be where none is.
func led(i api.Ins, at int) []int {
	switch i.Op {
	case api.XJump:
		return []int{i.C}
	case api.XHalt:
		return nil
	case api.XIf:
		return []int{i.C, at + 1}
	}
	return []int{at + 1}
}

// walked tells whether a way leads from an instruction to one that takes the temporary, ahead of all on it that give it: what the least truths come to.
func walked(p api.Prog, from, temp int) bool {
	seen := make([]bool, len(p.Code)+1)
	ways := []int{from}
	for len(ways) > 0 {
		at := ways[len(ways)-1]
		ways = ways[:len(ways)-1]
		if seen[at] || at == len(p.Code) {
			continue
		}
		seen[at] = true
		if slices.Contains(taken(p.Code[at]), temp) {
			return true
		}
		if !slices.Contains(given(p.Code[at]), temp) {
			ways = append(ways, led(p.Code[at], at)...)
		}
	}
	return false
}

func TestAgainstWalks(t *testing.T) {
	r := source(1)
	count := map[bool]int{}
	for range 5000 {
		p := r.program(api.MaxTemps, api.MaxCode)
		got, e := Of(p)
		if e != api.OK {
			t.Fatalf("Of(%v): %d", p, e)
		}
		expectSizes(t, p, got)
		for at, row := range got {
			for temp, is := range row {
				count[is]++
				if is != walked(p, at, temp) {
					t.Fatalf("Of(%v): ahead of %d, of %d: %v", p, at, temp, is)
				}
			}
		}
	}
	if min(count[false], count[true]) < 100000 {
		t.Errorf("the programs tried are too much alike: %v", count)
	}
}

// holds tells whether truths of one temporary, a bit for each instruction, are as D1 says, word for word.
func holds(p api.Prog, temp int, truths uint) bool {
	for at, i := range p.Code {
		later := false
		for _, next := range led(i, at) {
			later = later || truths>>next&1 == 1
		}
		want := slices.Contains(taken(i), temp) || later && !slices.Contains(given(i), temp)
		if want != (truths>>at&1 == 1) {
			return false
		}
	}
	return true
}

// TestAgainstAllTruths tries all truths that there are, of small programs: those that came out hold, and whatever else holds has them, too.
func TestAgainstAllTruths(t *testing.T) {
	r := source(2)
	more := 0
	for range 3000 {
		p := r.program(3, 7)
		got, _ := Of(p)
		for temp := range p.Wide {
			var least uint
			for at := range got {
				if got[at][temp] {
					least |= 1 << at
				}
			}
			if !holds(p, temp, least) {
				t.Fatalf("Of(%v): of %d: %b does not hold", p, temp, least)
			}
			for truths := range uint(1) << len(p.Code) {
				if !holds(p, temp, truths) {
					continue
				}
				if least&^truths != 0 {
					t.Fatalf("Of(%v): of %d: %b, but %b holds", p, temp, least, truths)
				}
				if truths != least {
					more++
				}
			}
		}
	}
	if more < 100 {
		t.Errorf("of %d alone there were greater truths", more)
	}
}
