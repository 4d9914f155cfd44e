package code

import "loanbook/api"

// reader has the bytes that were not read, and whether those that were are such as no places have.
type reader struct {
	rest  []byte
	wrong bool
}

// next reads one byte. Behind the last one it goes on with 0, so that what is read there has no lists, and soon ends.
func (r *reader) next() int {
	if len(r.rest) == 0 {
		r.wrong = true
		return 0
	}
	n := r.rest[0]
	r.rest = r.rest[1:]
	return int(n)
}

func (r *reader) placed() api.Placed {
	l := api.Placed{Slots: r.next()}
	for range r.next() {
		l.Rows = append(l.Rows, r.row())
	}
	return l
}

// row reads its fields one by one, as they stand in the bytes: in one literal their order would be easy to lose.
func (r *reader) row() api.Row {
	var row api.Row
	row.Dest = r.place()
	row.A = r.place()
	row.B = r.place()
	row.Before = r.moves()
	row.After = r.moves()
	return row
}

func (r *reader) place() api.Place {
	kind := r.next()
	return api.Place{Kind: kind, N: r.next()}
}

func (r *reader) moves() []api.Move {
	var moves []api.Move
	for range r.next() {
		moves = append(moves, r.move())
	}
	return moves
}

func (r *reader) move() api.Move {
	var m api.Move
	m.To = r.place()
	m.From = r.place()
	m.Const = r.flag()
	m.N = r.number()
	return m
}

// flag refuses any byte but 0 and 1: no places have it there.
func (r *reader) flag() bool {
	n := r.next()
	if n > 1 {
		r.wrong = true
	}
	return n == 1
}

func (r *reader) number() uint32 {
	var n uint32
	for range 4 {
		n = n<<8 | uint32(r.next())
	}
	return n
}
