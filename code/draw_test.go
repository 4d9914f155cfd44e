package code

import (
	"slices"
	"testing"

	"loanbook/api"
)

// source is a row of numbers that looks like chance, and is the same each time.
type source uint64

func (r *source) below(n int) int {
	*r = *r*6364136223846793005 + 1442695040888963407
	return int(uint64(*r)>>33) % n
}

// number goes into a byte; those at the edges come more often.
func (r *source) number() int {
	return []int{0, 1, 2, 3, 254, 255, r.below(256), r.below(256)}[r.below(8)]
}

func (r *source) place() api.Place { return at(r.number(), r.number()) }

func (r *source) move() api.Move {
	n := []uint32{0, 1, 255, 256, 1 << 16, 1 << 24, max32, uint32(r.below(1<<31))<<1 | uint32(r.below(2))}[r.below(8)]
	return api.Move{To: r.place(), From: r.place(), Const: r.below(2) == 1, N: n}
}

// count is small, mostly.
func (r *source) count() int {
	if r.below(100) == 0 {
		return r.number()
	}
	return r.below(4)
}

func (r *source) moves() []api.Move {
	moves := make([]api.Move, r.count())
	for k := range moves {
		moves[k] = r.move()
	}
	return moves
}

func (r *source) placed() api.Placed {
	l := api.Placed{Slots: r.number(), Rows: make([]api.Row, r.count())}
	for k := range l.Rows {
		l.Rows[k] = api.Row{Dest: r.place(), A: r.place(), B: r.place(), Before: r.moves(), After: r.moves()}
	}
	return l
}

func TestDrawnPlaces(t *testing.T) {
	r := source(1)
	for range 5000 {
		l := r.placed()
		expectBytes(t, l, bytesOf(l))
	}
}

// TestDrawnWrong: one or more of a drawn one's numbers do not go into a byte.
func TestDrawnWrong(t *testing.T) {
	r := source(2)
	for range 5000 {
		l := r.placed()
		all := numbers(&l)
		for range 1 + r.below(3) {
			*all[r.below(len(all))] = wrongNumbers()[r.below(len(wrongNumbers()))]
		}
		expectErrSize(t, l)
	}
}

// TestDrawnChanges: one byte of a drawn one's is changed, left out, or put in.
func TestDrawnChanges(t *testing.T) {
	r := source(3)
	read, refused := 0, 0
	for range 30000 {
		b := bytesOf(r.placed())
		at := r.below(len(b))
		switch r.below(4) {
		case 0:
			b = slices.Delete(b, at, at+1)
		case 1:
			b = slices.Insert(b, at, byte(r.number()))
		default:
			b[at] = byte(r.number())
		}
		if expectAsIsRead(t, b) {
			read++
		} else {
			refused++
		}
	}
	if min(read, refused) < 3000 {
		t.Errorf("the bytes tried are too much alike: %d were read, %d were not", read, refused)
	}
}

// TestDrawnBytes: most of them are 0 or 1, so that counts are small, and some are read.
func TestDrawnBytes(t *testing.T) {
	r := source(4)
	read, refused := 0, 0
	for range 300000 {
		b := make([]byte, r.below(48))
		for k := range b {
			b[k] = byte([]int{0, 0, 0, 0, 0, 1, 1, r.below(256)}[r.below(8)])
		}
		if expectAsIsRead(t, b) {
			read++
		} else {
			refused++
		}
	}
	if min(read, refused) < 1000 {
		t.Errorf("the bytes tried are too much alike: %d were read, %d were not", read, refused)
	}
}

func TestDrawnBytesOfAnyKind(t *testing.T) {
	r := source(5)
	for range 20000 {
		b := make([]byte, r.below(300))
		for k := range b {
			b[k] = byte(r.below(256))
		}
		expectAsIsRead(t, b)
	}
}
