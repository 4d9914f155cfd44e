package code

import (
	"encoding/binary"
	"slices"
	"testing"

	"loanbook/api"
)

const max32 = 1<<32 - 1

func at(kind, n int) api.Place         { return api.Place{Kind: kind, N: n} }
func single(n int) api.Place           { return at(api.KSingle, n) }
func double(n int) api.Place           { return at(api.KDouble, n) }
func slot(n int) api.Place             { return at(api.KSlot, n) }
func move(to, from api.Place) api.Move { return api.Move{To: to, From: from} }

func give(to api.Place, n uint32) api.Move { return api.Move{To: to, Const: true, N: n} }

func placed(slots int, rows ...api.Row) api.Placed { return api.Placed{Slots: slots, Rows: rows} }

// same takes an empty list for what nil is, too.
func same(a, b api.Placed) bool {
	return a.Slots == b.Slots && slices.EqualFunc(a.Rows, b.Rows, func(x, y api.Row) bool {
		return x.Dest == y.Dest && x.A == y.A && x.B == y.B && slices.Equal(x.Before, y.Before) && slices.Equal(x.After, y.After)
	})
}

// copied shares nothing with the places that are given.
func copied(l api.Placed) api.Placed {
	l.Rows = slices.Clone(l.Rows)
	for k, row := range l.Rows {
		l.Rows[k].Before = slices.Clone(row.Before)
		l.Rows[k].After = slices.Clone(row.After)
	}
	return l
}

// expectBytes asks both ways, and twice.
func expectBytes(t *testing.T, l api.Placed, want []byte) {
	t.Helper()
	for range 2 {
		if got, e := Put(l); e != api.OK || !slices.Equal(got, want) {
			t.Fatalf("Put(%v) = %v, %d, want %v", l, got, e, want)
		}
		if got, e := Get(want); e != api.OK || !same(got, l) {
			t.Fatalf("Get(%v) = %v, %d, want %v", want, got, e, l)
		}
	}
}

// expectErrSize asks for nothing else with the error.
func expectErrSize(t *testing.T, l api.Placed) {
	t.Helper()
	if got, e := Put(l); e != api.ErrSize || len(got) != 0 {
		t.Fatalf("Put(%v) = %v, %d, want nothing and ErrSize", l, got, e)
	}
}

func expectErrForm(t *testing.T, b []byte) {
	t.Helper()
	if got, e := Get(b); e != api.ErrForm || got.Slots != 0 || len(got.Rows) != 0 {
		t.Fatalf("Get(%v) = %v, %d, want nothing and ErrForm", b, got, e)
	}
}

// numbers leads to each number of the places that must go into a byte, but for how many there are of something.
func numbers(l *api.Placed) []*int {
	all := []*int{&l.Slots}
	add := func(p *api.Place) { all = append(all, &p.Kind, &p.N) }
	for k := range l.Rows {
		row := &l.Rows[k]
		add(&row.Dest)
		add(&row.A)
		add(&row.B)
		for _, moves := range [][]api.Move{row.Before, row.After} {
			for m := range moves {
				add(&moves[m].To)
				add(&moves[m].From)
			}
		}
	}
	return all
}

// bytesOf lays the bytes out another way than Put does, of places of which all numbers go into a byte.
func bytesOf(l api.Placed) []byte {
	b := []byte{byte(l.Slots), byte(len(l.Rows))}
	for _, row := range l.Rows {
		for _, p := range []api.Place{row.Dest, row.A, row.B} {
			b = append(b, byte(p.Kind), byte(p.N))
		}
		for _, moves := range [][]api.Move{row.Before, row.After} {
			b = append(b, byte(len(moves)))
			for _, m := range moves {
				b = append(b, byte(m.To.Kind), byte(m.To.N), byte(m.From.Kind), byte(m.From.N), 0)
				if m.Const {
					b[len(b)-1] = 1
				}
				b = binary.BigEndian.AppendUint32(b, m.N)
			}
		}
	}
	return b
}

// Of bytesOf: how many bytes places have ahead of their rows, rows ahead of their moves, and moves; and where in a move Const stands.
const (
	headBytes  = 2
	fieldBytes = 6
	moveBytes  = 9
	constAt    = 4
)

// isRead tells, by where the counts and the Consts stand, whether some places have these bytes.
func isRead(b []byte) bool {
	if len(b) < headBytes {
		return false
	}
	at := headBytes
	for range b[1] {
		at += fieldBytes
		for range 2 {
			if at >= len(b) {
				return false
			}
			end := at + 1 + moveBytes*int(b[at])
			if end > len(b) {
				return false
			}
			for m := at + 1; m < end; m += moveBytes {
				if b[m+constAt] > 1 {
					return false
				}
			}
			at = end
		}
	}
	return at == len(b)
}

// expectAsIsRead asks of any bytes at all: they are read if some places have them, and then Put tells just them.
func expectAsIsRead(t *testing.T, b []byte) bool {
	t.Helper()
	if !isRead(b) {
		expectErrForm(t, b)
		return false
	}
	l, e := Get(b)
	if e != api.OK {
		t.Fatalf("Get(%v) = %v, %d, want OK", b, l, e)
	}
	if !slices.Equal(bytesOf(l), b) {
		t.Fatalf("Get(%v) = %v, which has the bytes %v", b, l, bytesOf(l))
	}
	expectBytes(t, l, b)
	return true
}
