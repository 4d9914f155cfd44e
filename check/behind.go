package check

import (
	"loanbook/api"
	"loanbook/layout"
	"loanbook/place"
)

// behind has the facts behind an instruction and its moves, of those ahead of them.
func (w *world) behind(at int, f *facts) *facts {
	i, row := w.Code[at], w.rows[at]
	f = f.clone()
	w.moveAll(f, row.Before)
	if gives, _, _ := layout.Has(i.Op); gives {
		w.give(f, i, row.Dest)
	}
	w.moveAll(f, row.After)
	return f
}

func (w *world) moveAll(f *facts, moves []api.Move) {
	for _, m := range moves {
		w.move(f, m)
	}
}

func (w *world) move(f *facts, m api.Move) {
	// What is known of From is asked ahead of what goes, as From may be To.
	got := f.places[m.From].and(w.may(m.To.Kind))
	if m.Const {
		got = w.ofNumber(f, m.N)
	}
	f.keep(apartFrom(m.To))
	f.places[m.To] = got
}

func apartFrom(to api.Place) func(at api.Place) bool {
	return func(at api.Place) bool { return !place.Overlap(at, to) }
}

// ofNumber is what is known of a place that becomes a number. A number that there are no facts of tells nothing.
func (w *world) ofNumber(f *facts, n uint32) known {
	got := known{is: w.number(n)}
	for t := range w.Wide {
		if f.temps[t]&got.is != 0 {
			got.has |= only(t)
		}
	}
	return got
}

// give changes what is known by an instruction that gives its Dest to a place.
func (w *world) give(f *facts, i api.Ins, to api.Place) {
	got, isSame := w.given(f, i)
	f.keep(apartFrom(to))
	for _, at := range w.places {
		if k := f.places[at]; isSame(k) {
			f.places[at] = known{k.has | only(i.Dest), k.is}
		} else {
			f.places[at] = known{k.has &^ only(i.Dest), k.is}
		}
	}
	f.temps[i.Dest] = got.is
	f.places[to] = known{got.has | only(i.Dest), got.is}
}

// given is what is known of what an instruction gives, beside that it is its Dest, and how to tell of what is known of a place ahead of it whether the same is there.
func (w *world) given(f *facts, i api.Ins) (known, func(known) bool) {
	switch i.Op {
	case api.XConst:
		is := w.number(i.N)
		return known{is: is}, func(k known) bool { return k.is&is != 0 }
	case api.XMove:
		return known{only(i.A), f.temps[i.A]}, func(k known) bool { return k.has.contains(i.A) }
	}
	return known{}, func(known) bool { return false }
}
