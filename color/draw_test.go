package color

import (
	"reflect"
	"slices"
	"testing"

	"loanbook/api"
	"loanbook/done"
	"loanbook/layout"
	"loanbook/near"
	"loanbook/place"
	"loanbook/run"
)

// source is a row of numbers that looks like chance, and is the same each time.
type source uint64

func (r *source) below(n int) int {
	*r = *r*6364136223846793005 + 1442695040888963407
	return int(uint64(*r)>>33) % n
}

// instruction is any with those of the fields that its op has: its temporaries may be of the wrong width.
func (r *source) instruction(temps, count int) api.Ins {
	ops := []int{1, 2, 2, 2, 3, 3, 4, 4, 5, 6, 7, 8, 9, 9, 10, 21, 22, 26, 41, 42, 45}
	i := api.Ins{Op: ops[r.below(len(ops))]}
	dest, a, b := layout.Has(i.Op)
	if dest {
		i.Dest = r.below(temps)
	}
	if a {
		i.A = r.below(temps)
	}
	if b {
		i.B = r.below(temps)
	}
	switch i.Op {
	case api.XJump, api.XIf:
		i.C = r.below(count)
	case api.XConst:
		i.N = uint32(r.below(9))
	}
	return i
}

// program has temporaries that are all narrow, all wide, or mixed.
func (r *source) program(temps, count int) api.Prog {
	p := api.Prog{Wide: make([]bool, temps), Code: make([]api.Ins, count)}
	wide := []int{0, 1, 2, 3, 4, 4}[r.below(6)]
	for k := range p.Wide {
		p.Wide[k] = r.below(4) < wide
	}
	for k := range p.Code {
		p.Code[k] = halt()
	}
	for k := range p.Code {
		p.Code[k] = r.instruction(temps, count)
		for !layout.May(p) {
			p.Code[k] = r.instruction(temps, count)
		}
	}
	return p
}

// met counts what the drawn programs had, so that the tests are not all of one kind.
type met struct{ apart, halves, same, none int }

func (m *met) add(rows [][]bool, got []api.Place) {
	for one, a := range got {
		if a.Kind == api.KNone {
			m.none++
		}
		for other, b := range got[:one] {
			switch {
			case a.Kind == api.KNone || b.Kind == api.KNone:
			case rows[one][other] && a.Kind != b.Kind:
				m.halves++
			case rows[one][other]:
				m.apart++
			case place.Overlap(a, b):
				m.same++
			}
		}
	}
}

func expectNearApart(t *testing.T, p api.Prog, rows [][]bool, singles int, got []api.Place) {
	t.Helper()
	for one, a := range got {
		for other, b := range got {
			if rows[one][other] && a.Kind != api.KNone && place.Overlap(a, b) {
				t.Fatalf("Make(%v, %d) = %v: %d and %d are near, but overlap", p, singles, got, one, other)
			}
		}
	}
}

// expectNoneIsFree asks that one without a register has none because those of near ones overlap each that there is.
func expectNoneIsFree(t *testing.T, p api.Prog, rows [][]bool, singles int, got []api.Place) {
	t.Helper()
	for one, a := range got {
		if a.Kind != api.KNone {
			continue
		}
		var barred []int
		for other, b := range got {
			if rows[one][other] {
				barred = append(barred, has(b)...)
			}
		}
		for n := range singles {
			lower, upper := n, n
			if p.Wide[one] {
				lower, upper = n&^1, n|1
			}
			if !slices.Contains(barred, lower) && !slices.Contains(barred, upper) {
				t.Fatalf("Make(%v, %d) = %v: %d has none, but %d is free", p, singles, got, one, n)
			}
		}
	}
}

// barredFrom tells how many single registers the near ones that are left may keep from one: of a wide one each keeps a double register, whatever its own width.
func barredFrom(p api.Prog, row []bool, left []int, one int) int {
	sum := 0
	for _, other := range left {
		switch {
		case !row[other]:
		case p.Wide[one], p.Wide[other]:
			sum += 2
		default:
			sum++
		}
	}
	return sum
}

// isRoomForAll takes out, again and again, those that find a register whatever the others have.
func isRoomForAll(p api.Prog, rows [][]bool, singles int) bool {
	var left []int
	for k := range p.Wide {
		left = append(left, k)
	}
	for range p.Wide {
		left = slices.DeleteFunc(slices.Clone(left), func(k int) bool { return barredFrom(p, rows[k], left, k) < singles })
	}
	return len(left) == 0
}

func TestNearAreApart(t *testing.T) {
	r := source(1)
	var all met
	for k := range 4000 {
		p := r.program(1+k%api.MaxTemps, 1+r.below(api.MaxCode))
		rows, _ := near.Of(p)
		for _, singles := range evens() {
			got := made(t, p, singles)
			expectNearApart(t, p, rows, singles, got)
			expectNoneIsFree(t, p, rows, singles, got)
			if count(got) < len(got) && isRoomForAll(p, rows, singles) {
				t.Fatalf("Make(%v, %d) = %v: there is room for all", p, singles, got)
			}
			if again := made(t, p, singles); !slices.Equal(got, again) {
				t.Fatalf("Make(%v, %d) = %v, and then %v", p, singles, got, again)
			}
			all.add(rows, got)
		}
	}
	if min(all.apart, all.halves, all.same, all.none) < 10000 {
		t.Errorf("the programs tried are too much alike: %+v", all)
	}
}

// placed has each temporary in its register, if each has one.
func placed(p api.Prog, at []api.Place) api.Placed {
	var l api.Placed
	for _, i := range p.Code {
		var row api.Row
		dest, a, b := layout.Has(i.Op)
		if dest {
			row.Dest = at[i.Dest]
		}
		if a {
			row.A = at[i.A]
		}
		if b {
			row.B = at[i.B]
		}
		l.Rows = append(l.Rows, row)
	}
	return l
}

// TestInTheRegisters: what it is for. A program of which each temporary has a register shows the same in them.
func TestInTheRegisters(t *testing.T) {
	r := source(2)
	ins := []uint32{3, 0, 1 << 31, 5, 0, 7, 1, 1}
	long := 0
	for k := range 6000 {
		p := r.program(1+k%api.MaxTemps, 1+r.below(api.MaxCode))
		singles := 4 + 2*r.below(7)
		at := made(t, p, singles)
		if count(at) < len(at) {
			continue
		}
		want, _ := run.Run(p, ins, 200)
		got, e := done.Run(p, api.Target{Singles: singles}, placed(p, at), ins, 200)
		if e != api.OK || !reflect.DeepEqual(got, want) {
			t.Fatalf("%v in %v shows %v, %d, want %v", p, at, got, e, want)
		}
		if len(want.Out) > 1 {
			long++
		}
	}
	if long < 500 {
		t.Errorf("too few programs show something: %d", long)
	}
}
