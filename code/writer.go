package code

import "loanbook/api"

const maxByte = 255

// writer has the bytes so far, and whether some number did not go into one.
type writer struct {
	bytes []byte
	wrong bool
}

// put writes each number as a byte, up to one that does not go into one.
func (w *writer) put(numbers ...int) {
	for _, n := range numbers {
		if n < 0 || n > maxByte {
			w.wrong = true
			return
		}
		w.bytes = append(w.bytes, byte(n))
	}
}

// placed, like moves, stops at what is wrong: lists that are too long may be so long, one in another, that to go through them all would take ages.
func (w *writer) placed(l api.Placed) {
	w.put(l.Slots, len(l.Rows))
	for _, row := range l.Rows {
		if w.wrong {
			return
		}
		w.row(row)
	}
}

func (w *writer) row(row api.Row) {
	w.put(row.Dest.Kind, row.Dest.N, row.A.Kind, row.A.N, row.B.Kind, row.B.N)
	w.moves(row.Before)
	w.moves(row.After)
}

func (w *writer) moves(moves []api.Move) {
	w.put(len(moves))
	for _, m := range moves {
		if w.wrong {
			return
		}
		w.move(m)
	}
}

func (w *writer) move(m api.Move) {
	w.put(m.To.Kind, m.To.N, m.From.Kind, m.From.N, flag(m.Const))
	w.put(int(m.N>>24), int(m.N>>16&maxByte), int(m.N>>8&maxByte), int(m.N&maxByte))
}

func flag(set bool) int {
	if set {
		return 1
	}
	return 0
}
