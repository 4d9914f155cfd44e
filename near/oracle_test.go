package near

import (
	"reflect"
	"testing"

	"loanbook/api"
	"loanbook/layout"
	"loanbook/live"
	"loanbook/run"
)

// source is a row of numbers that looks like chance, and is the same each time.
type source uint64

func (r *source) below(n int) int {
	*r = *r*6364136223846793005 + 1442695040888963407
	return int(uint64(*r)>>33) % n
}

// instruction is any with those of the fields that its op has: its temporaries may be of the wrong width.
func (r *source) instruction(temps, count int) api.Ins {
	ops := []int{1, 2, 2, 2, 3, 3, 4, 4, 5, 6, 7, 8, 9, 9, 10, 21, 22, 23, 24, 25, 26, 41, 42, 43, 44, 45}
	i := api.Ins{Op: ops[r.below(len(ops))]}
	dest, a, b := layout.Has(i.Op)
	if dest {
		i.Dest = r.below(temps)
	}
	if a {
		i.A = r.below(temps)
	}
	if b {
		i.B = r.below(temps)
	}
	switch i.Op {
	case api.XJump, api.XIf:
		i.C = r.below(count)
	case api.XConst:
		i.N = uint32(r.below(9))
	}
	return i
}

// program begins with one of halts, which may be, and puts in instructions with which it still may be.
func (r *source) program(temps, count int) api.Prog {
	p := api.Prog{Wide: make([]bool, 1+r.below(temps)), Code: make([]api.Ins, 1+r.below(count))}
	for k := range p.Wide {
		p.Wide[k] = r.below(3) == 0
	}
	for k := range p.Code {
		p.Code[k] = halt()
	}
	for k := range p.Code {
		p.Code[k] = r.instruction(len(p.Wide), len(p.Code))
		for !layout.May(p) {
			p.Code[k] = r.instruction(len(p.Wide), len(p.Code))
		}
	}
	return p
}

func gives(i api.Ins, temp int) bool {
	switch i.Op {
	case api.XOut, api.XJump, api.XIf, api.XHalt:
		return false
	}
	return i.Dest == temp
}

// isNear is E1, word for word. Each instruction that gives one goes on with the next.
func isNear(p api.Prog, needed [][]bool, one, other int) bool {
	if one == other {
		return false
	}
	for at, i := range p.Code[:len(p.Code)-1] {
		for _, both := range [][2]int{{one, other}, {other, one}} {
			given, needs := both[0], both[1]
			if gives(i, given) && needed[at+1][needs] && !(i.Op == api.XMove && needs == i.A) {
				return true
			}
		}
	}
	return needed[0][one] && needed[0][other]
}

func TestAgainstWords(t *testing.T) {
	r := source(1)
	count := map[bool]int{}
	for k := range 5000 {
		p := r.program(api.MaxTemps, 1+k%api.MaxCode)
		needed, _ := live.Of(p)
		got, e := Of(p)
		if e != api.OK {
			t.Fatalf("Of(%v): %d", p, e)
		}
		expectSquare(t, p, got)
		for one, row := range got {
			for other, is := range row {
				count[is]++
				if is != isNear(p, needed, one, other) {
					t.Fatalf("Of(%v): of %d and %d: %v", p, one, other, is)
				}
			}
		}
	}
	if min(count[false], count[true]) < 50000 {
		t.Errorf("the programs tried are too much alike: %v", count)
	}
}

// merged is the program with the one temporary in the place of the other.
func merged(p api.Prog, one, other int) api.Prog {
	q := api.Prog{Wide: p.Wide}
	for _, i := range p.Code {
		dest, a, b := layout.Has(i.Op)
		if dest && i.Dest == other {
			i.Dest = one
		}
		if a && i.A == other {
			i.A = one
		}
		if b && i.B == other {
			i.B = one
		}
		q.Code = append(q.Code, i)
	}
	return q
}

// TestInOnePlace: what it is for. Two of one width that are not near may be one, and the program shows the same.
func TestInOnePlace(t *testing.T) {
	r := source(2)
	ins := []uint32{3, 0, 1 << 31, 5, 0, 7, 1, 1}
	same, differ := 0, 0
	for range 5000 {
		p := r.program(6, 20)
		rows, _ := Of(p)
		want, _ := run.Run(p, ins, 200)
		for one := range p.Wide {
			for other := range one {
				if p.Wide[one] != p.Wide[other] {
					continue
				}
				got, e := run.Run(merged(p, one, other), ins, 200)
				switch {
				case e == api.OK && reflect.DeepEqual(got, want):
					same++
				case rows[one][other]:
					differ++
				default:
					t.Fatalf("%v: %d and %d are not near, but in one place it shows %v, %d, not %v", p, one, other, got, e, want)
				}
			}
		}
	}
	if min(same, differ) < 300 {
		t.Errorf("the programs tried are too much alike: %d the same, %d not", same, differ)
	}
}
