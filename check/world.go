package check

import (
	"slices"

	"loanbook/api"
	"loanbook/layout"
	"loanbook/place"
)

// world is a program in its places, with all that there may be facts of.
type world struct {
	api.Prog
	rows    []api.Row
	places  []api.Place // rising by Kind and N
	numbers []uint32    // rising, so that 0 is the first one
}

func newWorld(p api.Prog, t api.Target, l api.Placed) *world {
	return &world{Prog: p, rows: l.Rows, places: place.All(t, l.Slots), numbers: numbersOf(p)}
}

func numbersOf(p api.Prog) []uint32 {
	list := []uint32{0}
	for _, i := range p.Code {
		if i.Op == api.XConst {
			list = append(list, i.N)
		}
	}
	slices.Sort(list)
	return slices.Compact(list)
}

// number is the set of one number; of one that there are no facts of, it is empty.
func (w *world) number(n uint32) set {
	if k, found := slices.BinarySearch(w.numbers, n); found {
		return only(k)
	}
	return 0
}

func (w *world) numbersIn(s set) []uint32 {
	var list []uint32
	for k, n := range w.numbers {
		if s.contains(k) {
			list = append(list, n)
		}
	}
	return list
}

// may has all facts that there may be of a place of that kind.
func (w *world) may(kind int) known {
	var all known
	for t, wide := range w.Wide {
		if kind == api.KSlot || wide == (kind == api.KDouble) {
			all.has |= only(t)
		}
	}
	if kind != api.KDouble {
		all.is = only(len(w.numbers)) - 1
	}
	return all
}

func (w *world) beginning() *facts {
	zero := w.number(0)
	f := &facts{map[api.Place]known{}, map[int]set{}}
	for _, at := range w.places {
		all := w.may(at.Kind)
		f.places[at] = known{all.has, all.is & zero}
	}
	for t, wide := range w.Wide {
		if !wide {
			f.temps[t] = zero
		}
	}
	return f
}

// ahead has, of each instruction, the facts ahead of its Before; nil of one to which no way leads from the first one.
func (w *world) ahead() []*facts {
	all := make([]*facts, len(w.Code))
	all[0] = w.beginning()
	// As facts are only taken away where ways meet, and none without need, what is left is the greatest sets.
	for w.spread(all) {
	}
	return all
}

// spread brings what is known behind each instruction to where it goes on, and tells whether that changed anything. One to which no way leads is passed over: no run comes from there.
func (w *world) spread(all []*facts) bool {
	changed := false
	for at, f := range all {
		if f == nil {
			continue
		}
		behind := w.behind(at, f)
		for _, next := range layout.GoesOn(w.Prog, at) {
			if w.bring(all, next, behind) {
				changed = true
			}
		}
	}
	return changed
}

func (w *world) bring(all []*facts, next int, f *facts) bool {
	if all[next] == nil {
		all[next] = f.clone()
		return true
	}
	return w.meet(all[next], f)
}

// meet leaves the facts that are among the others, too, and tells whether any went.
func (w *world) meet(f, others *facts) bool {
	went := false
	for _, at := range w.places {
		was := f.places[at]
		f.places[at] = was.and(others.places[at])
		went = went || f.places[at] != was
	}
	for t := range w.Wide {
		was := f.temps[t]
		f.temps[t] = was & others.temps[t]
		went = went || f.temps[t] != was
	}
	return went
}
