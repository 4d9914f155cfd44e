package place

import (
	"slices"
	"strings"
	"testing"

	"loanbook/api"
	"loanbook/layout"
)

// source is a row of numbers that looks like chance, and is the same each time.
type source uint64

func (r *source) below(n int) int {
	*r = *r*6364136223846793005 + 1442695040888963407
	return int(uint64(*r)>>33) % n
}

// hasByTable tells which of Dest, A and B an op has, in the words of B1's table.
func hasByTable(op int) []string {
	switch op {
	case api.XConst, api.XIn:
		return []string{"Dest"}
	case api.XMove, api.XLow, api.XHigh:
		return []string{"Dest", "A"}
	case api.XOut, api.XIf:
		return []string{"A"}
	case api.XJump, api.XHalt:
		return nil
	}
	return []string{"Dest", "A", "B"}
}

// allPlaces has each place of a target and of so many slots: F1, word for word.
func allPlaces(t api.Target, slots int) []api.Place {
	var list []api.Place
	for n := 0; n < t.Singles; n++ {
		list = append(list, single(n))
	}
	for n := 0; n < t.Singles/2; n++ {
		list = append(list, double(n))
	}
	for n := 0; n < slots; n++ {
		list = append(list, slot(n))
	}
	return list
}

// mayByWords is F3, word for word.
func mayByWords(p api.Prog, t api.Target, l api.Placed) bool {
	if !layout.May(p) || t.Singles%2 != 0 || t.Singles < 4 || t.Singles > api.MaxSingles {
		return false
	}
	if l.Slots < 0 || l.Slots > api.MaxSlots || len(l.Rows) != len(p.Code) {
		return false
	}
	all := allPlaces(t, l.Slots)
	for at, i := range p.Code {
		row := l.Rows[at]
		if !fieldByWords(p, all, i.Op, "Dest", i.Dest, row.Dest) || !fieldByWords(p, all, i.Op, "A", i.A, row.A) || !fieldByWords(p, all, i.Op, "B", i.B, row.B) {
			return false
		}
		if len(row.Before) > api.MaxMoves || len(row.After) > api.MaxMoves {
			return false
		}
		if slices.Contains([]int{api.XJump, api.XIf, api.XHalt}, i.Op) && len(row.After) > 0 {
			return false
		}
		for _, m := range slices.Concat(row.Before, row.After) {
			if !moveByWords(all, m) {
				return false
			}
		}
	}
	return true
}

func fieldByWords(p api.Prog, all []api.Place, op int, name string, temp int, l api.Place) bool {
	switch {
	case !slices.Contains(hasByTable(op), name):
		return l.Kind == 0 && l.N == 0
	case !slices.Contains(all, l):
		return false
	case p.Wide[temp]:
		return l.Kind == api.KDouble
	}
	return l.Kind == api.KSingle
}

func moveByWords(all []api.Place, m api.Move) bool {
	if !slices.Contains(all, m.To) {
		return false
	}
	if m.Const {
		return m.From.Kind == 0 && m.From.N == 0 && m.To.Kind == api.KSingle
	}
	if !slices.Contains(all, m.From) || m.N != 0 {
		return false
	}
	letters := ".SDM"
	return strings.Contains("SS DD SM MS DM MD", letters[m.To.Kind:m.To.Kind+1]+letters[m.From.Kind:m.From.Kind+1])
}

// instruction is any with those of the fields that its op has: its temporaries may be of the wrong width.
func (r *source) instruction(temps, count int) api.Ins {
	ops := []int{1, 2, 2, 3, 4, 5, 6, 7, 8, 9, 10, 21, 22, 23, 24, 25, 26, 41, 42, 43, 44, 45}
	i := api.Ins{Op: ops[r.below(len(ops))]}
	for _, name := range hasByTable(i.Op) {
		switch name {
		case "Dest":
			i.Dest = r.below(temps)
		case "A":
			i.A = r.below(temps)
		case "B":
			i.B = r.below(temps)
		}
	}
	switch i.Op {
	case api.XJump, api.XIf:
		i.C = r.below(count)
	case api.XConst:
		i.N = uint32(r.below(9))
	}
	return i
}

// program begins with one of halts, which may be, and puts in instructions with which it still may be.
func (r *source) program() api.Prog {
	p := api.Prog{Wide: make([]bool, 1+r.below(api.MaxTemps)), Code: make([]api.Ins, 1+r.below(12))}
	for k := range p.Wide {
		p.Wide[k] = r.below(2) == 0
	}
	for k := range p.Code {
		p.Code[k] = api.Ins{Op: api.XHalt}
	}
	for k := range p.Code {
		p.Code[k] = r.instruction(len(p.Wide), len(p.Code))
		for !layout.May(p) {
			p.Code[k] = r.instruction(len(p.Wide), len(p.Code))
		}
	}
	return p
}

// place is any of the target's and of the slots.
func (r *source) place(all []api.Place) api.Place { return all[r.below(len(all))] }

func (r *source) register(all []api.Place, wide bool) api.Place {
	for {
		l := r.place(all)
		if wide && l.Kind == api.KDouble || !wide && l.Kind == api.KSingle {
			return l
		}
	}
}

func (r *source) move(all []api.Place) api.Move {
	if r.below(4) == 0 {
		return api.Move{To: r.register(all, false), Const: true, N: uint32(r.below(3))}
	}
	for {
		if m := (api.Move{To: r.place(all), From: r.place(all)}); moveByWords(all, m) {
			return m
		}
	}
}

func (r *source) moves(all []api.Place) []api.Move {
	var list []api.Move
	for range max(0, r.below(12)-5) {
		list = append(list, r.move(all))
	}
	return list
}

// placed is such as may be.
func (r *source) placed(p api.Prog, t api.Target) api.Placed {
	l := api.Placed{Slots: r.below(api.MaxSlots + 1)}
	all := allPlaces(t, l.Slots)
	for _, i := range p.Code {
		row := api.Row{Before: r.moves(all)}
		for _, name := range hasByTable(i.Op) {
			switch name {
			case "Dest":
				row.Dest = r.register(all, p.Wide[i.Dest])
			case "A":
				row.A = r.register(all, p.Wide[i.A])
			case "B":
				row.B = r.register(all, p.Wide[i.B])
			}
		}
		if !isBranch(i.Op) {
			row.After = r.moves(all)
		}
		l.Rows = append(l.Rows, row)
	}
	return l
}

// spoil changes one thing, which then may be wrong, or not.
func (r *source) spoil(p *api.Prog, t *api.Target, l *api.Placed) {
	row := &l.Rows[r.below(len(l.Rows))]
	any := api.Place{Kind: r.below(6) - 1, N: r.below(api.MaxSingles+3) - 1}
	move := api.Move{To: any, From: api.Place{Kind: r.below(5), N: r.below(9)}, Const: r.below(3) == 0, N: uint32(r.below(2))}
	switch r.below(13) {
	case 0:
		t.Singles = r.below(api.MaxSingles+6) - 2
	case 1:
		l.Slots = r.below(api.MaxSlots+5) - 2
	case 2:
		l.Rows = l.Rows[:len(l.Rows)-1]
	case 3:
		l.Rows = append(l.Rows, api.Row{})
	case 4:
		row.Dest = any
	case 5:
		row.A = any
	case 6:
		row.B = any
	case 7:
		row.Before = append(row.Before, move)
	case 8:
		row.After = append(row.After, move)
	case 9:
		row.Dest, row.A = row.A, row.Dest
	case 10:
		row.Before, row.After = row.After, row.Before
	case 11:
		p.Wide[r.below(len(p.Wide))] = r.below(2) == 0
	case 12:
		r.spoilMove(*row, any)
	}
}

func (r *source) spoilMove(row api.Row, l api.Place) {
	if len(row.Before) == 0 {
		return
	}
	m := &row.Before[r.below(len(row.Before))]
	switch r.below(5) {
	case 0:
		m.To = l
	case 1:
		m.From = l
	case 2:
		m.Const = !m.Const
	case 3:
		m.N = uint32(r.below(2))
	case 4:
		m.To, m.From = m.From, m.To
	}
}

func TestMayAgainstWords(t *testing.T) {
	r := source(1)
	count := map[bool]int{}
	for k := range 40000 {
		p := r.program()
		target := api.Target{Singles: 4 + 2*r.below(7)}
		l := r.placed(p, target)
		if k%4 == 0 && !May(p, target, l) {
			t.Fatalf("May(%v, %v, %v) = false, but nothing is wrong", p, target, l)
		}
		for range k % 4 {
			if len(l.Rows) > 0 {
				r.spoil(&p, &target, &l)
			}
		}
		got := May(p, target, l)
		count[got]++
		if want := mayByWords(p, target, l); got != want {
			t.Fatalf("May(%v, %v, %v) = %v, want %v", p, target, l, got, want)
		}
	}
	if min(count[false], count[true]) < 10000 {
		t.Errorf("the places tried are too much alike: %v", count)
	}
}
