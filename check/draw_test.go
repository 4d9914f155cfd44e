package check

import (
	"slices"

	"loanbook/api"
	"loanbook/layout"
	"loanbook/place"
)

// source is a row of numbers that looks like chance, and is the same each time.
type source uint64

func (r *source) below(n int) int {
	*r = *r*6364136223846793005 + 1442695040888963407
	return int(uint64(*r)>>33) % n
}

// number is one of few, so that one is met more than once.
func (r *source) number() uint32 { return []uint32{0, 0, 1, 2, 5, max32}[r.below(6)] }

func (r *source) ins() []uint32 {
	list := make([]uint32, r.below(12))
	for k := range list {
		list[k] = r.number() + uint32(r.below(3))
	}
	return list
}

// instruction has any temporaries: whether it may stand is asked of layout.
func (r *source) instruction(temps, count int) api.Ins {
	ops := []int{1, 1, 1, 2, 2, 2, 2, 3, 3, 4, 4, 4, 4, 5, 6, 7, 8, 9, 9, 9, 10, 21, 22, 26, 41, 45}
	i := api.Ins{Op: ops[r.below(len(ops))]}
	dest, a, b := layout.Has(i.Op)
	if dest {
		i.Dest = r.below(temps)
	}
	if a {
		i.A = r.below(temps)
	}
	if b {
		i.B = r.below(temps)
	}
	switch i.Op {
	case api.XJump, api.XIf:
		i.C = r.below(count)
	case api.XConst:
		i.N = r.number()
	case api.XHalt:
		// Few of them, so that runs are long.
		if r.below(4) > 0 {
			return r.instruction(temps, count)
		}
	}
	return i
}

// program has narrow temporaries, and at least one wide one.
func (r *source) program(temps, count int) api.Prog {
	p := api.Prog{Wide: make([]bool, temps), Code: make([]api.Ins, count)}
	for k := range p.Wide {
		p.Wide[k] = k == 1 || k > 1 && r.below(3) == 0
	}
	for k := range p.Code {
		p.Code[k] = api.Ins{Op: api.XHalt}
	}
	for k := range p.Code {
		p.Code[k] = r.instruction(temps, count)
		for !layout.May(p) {
			p.Code[k] = r.instruction(temps, count)
		}
	}
	return p
}

// register is one for a temporary of that width.
func (r *source) register(singles int, wide bool) api.Place {
	if wide {
		return double(r.below(singles / 2))
	}
	return single(r.below(singles))
}

func (r *source) move(singles, slots int) api.Move {
	one, kind := r.register(singles, r.below(2) == 0), r.below(4)
	if slots == 0 {
		kind %= 2
	}
	switch kind {
	case 0:
		return constant(r.below(singles), r.number())
	case 1:
		return move(one, r.register(singles, one.Kind == api.KDouble))
	case 2:
		return move(one, slot(r.below(slots)))
	}
	return move(slot(r.below(slots)), one)
}

func (r *source) moves(singles, slots int) []api.Move {
	var list []api.Move
	for range max(0, r.below(9)-5) {
		list = append(list, r.move(singles, slots))
	}
	return list
}

// placed has any places and any moves: what is taken need not be what was given.
func (r *source) placed(p api.Prog, singles, slots int) api.Placed {
	l := api.Placed{Slots: slots}
	for _, i := range p.Code {
		row := api.Row{Before: r.moves(singles, slots)}
		dest, a, b := layout.Has(i.Op)
		if dest {
			row.Dest = r.register(singles, p.Wide[i.Dest])
		}
		if a {
			row.A = r.register(singles, p.Wide[i.A])
		}
		if b {
			row.B = r.register(singles, p.Wide[i.B])
		}
		if mayHaveAfter(i.Op) {
			row.After = r.moves(singles, slots)
		}
		l.Rows = append(l.Rows, row)
	}
	return l
}

func mayHaveAfter(op int) bool { return op != api.XJump && op != api.XIf && op != api.XHalt }

// homes gives each temporary a place of its own: a register behind the first four, or, if it draws none, the slot of its number.
func (r *source) homes(p api.Prog, singles int) []api.Place {
	at := make([]api.Place, len(p.Wide))
	for k, wide := range p.Wide {
		at[k] = r.register(singles, wide)
		free := func(l api.Place) bool { return !overlaps(l, at[k]) }
		first := overlaps(at[k], double(0)) || overlaps(at[k], double(1))
		if first || !every(at[:k], free) {
			at[k] = slot(k)
		}
	}
	return at
}

func every(list []api.Place, is func(api.Place) bool) bool {
	return !slices.ContainsFunc(list, func(l api.Place) bool { return !is(l) })
}

// careful has places that do what the program does: each temporary has a home, and comes from it and goes to it by one of the first four registers, if it is a slot.
func (r *source) careful(p api.Prog, singles int) api.Placed {
	homes := r.homes(p, singles)
	l := api.Placed{Slots: len(p.Wide)}
	at := func(temp, n int) api.Place {
		switch {
		case homes[temp].Kind != api.KSlot:
			return homes[temp]
		case p.Wide[temp]:
			return double(n)
		}
		return single(2*n + r.below(2))
	}
	for _, i := range p.Code {
		var row api.Row
		dest, a, b := layout.Has(i.Op)
		if a {
			row.A = at(i.A, 0)
			row.Before = brought(row.Before, row.A, homes[i.A])
		}
		if b {
			row.B = at(i.B, 1)
			row.Before = brought(row.Before, row.B, homes[i.B])
		}
		if dest {
			row.Dest = at(i.Dest, r.below(2))
			row.After = brought(row.After, homes[i.Dest], row.Dest)
		}
		l.Rows = append(l.Rows, row)
	}
	return l
}

func brought(moves []api.Move, to, from api.Place) []api.Move {
	if to == from {
		return moves
	}
	return append(moves, move(to, from))
}

// changed makes up to nine changes, each of which may leave places that do something else.
func (r *source) changed(p api.Prog, singles int, l *api.Placed) {
	for range r.below(10) {
		at := r.below(len(l.Rows))
		was := l.Rows[at]
		l.Rows[at] = r.changedRow(singles, l.Slots, was)
		if !place.May(p, target(singles), *l) {
			l.Rows[at] = was
		}
	}
}

func (r *source) changedRow(singles, slots int, row api.Row) api.Row {
	row.Before, row.After = slices.Clone(row.Before), slices.Clone(row.After)
	switch r.below(7) {
	case 0:
		row.Before = r.without(row.Before)
	case 1:
		row.After = r.without(row.After)
	case 2:
		row.Before = r.with(row.Before, r.move(singles, slots))
	case 3:
		row.After = r.with(row.After, r.move(singles, slots))
	case 4:
		// A number instead of what is brought.
		for k, m := range row.Before {
			if m.To.Kind == api.KSingle {
				row.Before[k] = constant(m.To.N, r.number())
			}
		}
	case 5:
		// A is taken from elsewhere, where it was brought to, or not.
		to := r.register(singles, row.A.Kind == api.KDouble)
		if r.below(4) > 0 {
			row.Before = append(row.Before, move(to, row.A))
		}
		row.A = to
	case 6:
		// Dest is given to elsewhere, from where it is brought, or not.
		to := r.register(singles, row.Dest.Kind == api.KDouble)
		if r.below(4) > 0 {
			row.After = append([]api.Move{move(row.Dest, to)}, row.After...)
		}
		row.Dest = to
	}
	return row
}

func (r *source) without(moves []api.Move) []api.Move {
	if len(moves) == 0 {
		return nil
	}
	k := r.below(len(moves))
	return slices.Delete(moves, k, k+1)
}

func (r *source) with(moves []api.Move, m api.Move) []api.Move {
	return slices.Insert(moves, r.below(len(moves)+1), m)
}
