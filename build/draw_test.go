package build

import (
	"reflect"
	"testing"

	"loanbook/api"
	"loanbook/layout"
)

// source is a row of numbers that looks like chance, and is the same each time.
type source uint64

func (r *source) below(n int) int {
	*r = *r*6364136223846793005 + 1442695040888963407
	return int(uint64(*r)>>33) % n
}

func (r *source) number() uint32 {
	return []uint32{0, 0, 1, 2, 5, 1 << 31, max32, uint32(r.below(1 << 30))}[r.below(8)]
}

func (r *source) ins() []uint32 {
	list := make([]uint32, r.below(api.MaxIns+1))
	for k := range list {
		list[k] = r.number()
	}
	return list
}

// op is any of them, those that run on more often, so that runs are long.
func (r *source) op() int {
	switch k := r.below(30); {
	case k < 6:
		return narrowOps()[k]
	case k < 11:
		return wideOps()[k-6]
	default:
		return []int{1, 1, 2, 2, 2, 3, 3, 3, 4, 4, 4, 4, 5, 5, 6, 7, 8, 9, 10}[k-11]
	}
}

// instruction is any with those of the fields that its op has: its temporaries may be of the wrong width. It leads back, or on: on more often, so that runs end.
func (r *source) instruction(temps, at, count int) api.Ins {
	i := api.Ins{Op: r.op()}
	dest, a, b := layout.Has(i.Op)
	if dest {
		i.Dest = r.below(temps)
	}
	if a {
		i.A = r.below(temps)
	}
	if b {
		i.B = r.below(temps)
	}
	switch i.Op {
	case api.XJump, api.XIf:
		i.C = r.below(count)
		if r.below(3) > 0 {
			i.C = at + r.below(count-at)
		}
	case api.XConst:
		i.N = r.number()
	}
	return i
}

// program has temporaries that are all narrow, all wide, or mixed.
func (r *source) program(temps, count int) api.Prog {
	p := api.Prog{Wide: make([]bool, temps), Code: make([]api.Ins, count)}
	wide := []int{0, 1, 1, 2, 2, 3, 4}[r.below(7)]
	for k := range p.Wide {
		p.Wide[k] = r.below(4) < wide
	}
	for k := range p.Code {
		p.Code[k] = halt()
	}
	for k := range p.Code {
		p.Code[k] = r.instruction(temps, k, count)
		for !layout.May(p) {
			p.Code[k] = r.instruction(temps, k, count)
		}
	}
	return p
}

// size has those at the limits more often than others.
func (r *source) size(most int) int {
	switch r.below(6) {
	case 0:
		return 1 + r.below(3)
	case 1, 2, 3:
		return most
	}
	return 1 + r.below(most)
}

// met counts what the drawn programs and their places had, so that the tests are not all of one kind.
type met struct{ none, some, all, single, double, two, outs, runs int }

func (m *met) add(p api.Prog, l api.Placed) {
	switch l.Slots {
	case 0:
		m.none++
	case len(p.Wide):
		m.all++
	default:
		m.some++
	}
	for _, row := range l.Rows {
		if len(row.Before) > 1 {
			m.two++
		}
		for _, move := range row.Before {
			switch move.To.Kind {
			case api.KSingle:
				m.single++
			case api.KDouble:
				m.double++
			}
		}
	}
}

func (m *met) least() int {
	return min(m.none, m.some, m.all, m.single, m.double, m.two, m.outs, m.runs)
}

func TestDrawn(t *testing.T) {
	r := source(1)
	var all met
	for _, singles := range targets() {
		for range 700 {
			p := r.program(r.size(api.MaxTemps), r.size(api.MaxCode))
			l := built(t, p, singles)
			if again, _ := Build(p, target(singles)); !reflect.DeepEqual(l, again) {
				t.Fatalf("Build(%v, %d) = %v, and then %v", p, singles, l, again)
			}
			all.add(p, l)
			for _, ins := range [][]uint32{nil, r.ins(), r.ins(), r.ins()} {
				for _, steps := range []int{0, r.below(5), 300} {
					shown := expectShows(t, p, singles, l, ins, steps)
					all.outs += len(shown.Out)
					all.runs += min(1, shown.Steps/api.MaxCode)
				}
			}
		}
	}
	if all.least() < 300 {
		t.Errorf("the programs tried are too much alike: %+v", all)
	}
}

// TestDrawnCrowds: all of MaxTemps temporaries are filled at the beginning and brought out at the end, and what is between is drawn.
func TestDrawnCrowds(t *testing.T) {
	r := source(2)
	var all met
	for _, singles := range targets() {
		for range 300 {
			p := r.crowd()
			l := built(t, p, singles)
			all.add(p, l)
			for _, ins := range [][]uint32{nil, r.ins(), r.ins(), r.ins()} {
				expectShows(t, p, singles, l, ins, r.below(api.MaxCode))
				shown := expectShows(t, p, singles, l, ins, 400)
				all.outs += len(shown.Out)
				all.runs += min(1, shown.Steps/api.MaxCode)
			}
		}
	}
	all.none = all.all // with so many at once, there is hardly room for all, however many registers there are
	if all.least() < 200 {
		t.Errorf("the programs tried are too much alike: %+v", all)
	}
}

// crowd has in its middle anything but an XHalt.
func (r *source) crowd() api.Prog {
	const narrow, middle = 8, 12
	p := api.Prog{Wide: append(allNarrow(narrow), allWide(api.MaxTemps-narrow)...)}
	for k := range narrow {
		p.Code = append(p.Code, in(k))
	}
	for k := narrow; k < api.MaxTemps; k++ {
		p.Code = append(p.Code, pair(k, r.below(narrow), r.below(narrow)))
	}
	first := len(p.Code)
	for range middle {
		p.Code = append(p.Code, halt())
	}
	for k := range narrow {
		p.Code = append(p.Code, out(k))
	}
	for k := narrow; k < api.MaxTemps; k++ {
		p.Code = append(p.Code, high(k-narrow, k), out(k-narrow))
	}
	for k := first; k < first+middle; k++ {
		for !layout.May(p) || p.Code[k].Op == api.XHalt {
			p.Code[k] = r.instruction(api.MaxTemps, k, len(p.Code))
		}
	}
	return p
}
