package code

import (
	"math"
	"slices"
	"testing"

	"loanbook/api"
)

func wrongNumbers() []int {
	// The lowest byte of some of these is one that might do: of 256, and of the least int, it is 0.
	return []int{256, 257, 511, 512, 65536, -1, -255, -256, math.MinInt, math.MinInt + 1, math.MaxInt, math.MaxInt - 255}
}

// threeRows has moves ahead of, and behind, each instruction, and each number of it is another one.
func threeRows() api.Placed {
	l := placed(0)
	for range 3 {
		l.Rows = append(l.Rows, api.Row{Before: make([]api.Move, 2), After: make([]api.Move, 2)})
	}
	for k, n := range numbers(&l) {
		*n = 100 + k
	}
	l.Rows[1].Before[0].N = max32
	l.Rows[2].After[1].Const = true
	return l
}

func TestEachNumber(t *testing.T) {
	base := bytesOf(threeRows())
	for k := range numbers(new(threeRows())) {
		for _, n := range []int{0, 1, 254, 255} {
			l := threeRows()
			*numbers(&l)[k] = n
			want := slices.Clone(base)
			want[slices.Index(base, byte(100+k))] = byte(n)
			expectBytes(t, l, want)
		}
		for _, n := range wrongNumbers() {
			l := threeRows()
			*numbers(&l)[k] = n
			expectErrSize(t, l)
		}
	}
}

// TestEachNumberAlone: all others are 0, so that nothing but that one number is wrong.
func TestEachNumberAlone(t *testing.T) {
	bare := func() api.Placed {
		return placed(0, api.Row{Before: make([]api.Move, 1), After: make([]api.Move, 1)})
	}
	// Where Slots, the kinds and numbers of Dest, A, B, and of To and From of both moves stand, by hand.
	places := []int{0, 2, 3, 4, 5, 6, 7, 9, 10, 11, 12, 19, 20, 21, 22}
	if len(places) != len(numbers(new(bare()))) {
		t.Fatal("not all numbers are tried")
	}
	for k, at := range places {
		for _, n := range []int{0, 1, 254, 255} {
			l := bare()
			*numbers(&l)[k] = n
			want := make([]byte, 28)
			want[1], want[8], want[18] = 1, 1, 1
			want[at] = byte(n)
			expectBytes(t, l, want)
		}
		for _, n := range wrongNumbers() {
			l := bare()
			*numbers(&l)[k] = n
			expectErrSize(t, l)
		}
	}
}

// TestTwoNumbers: no one of them makes up for the other.
func TestTwoNumbers(t *testing.T) {
	count := len(numbers(new(threeRows())))
	for k := range count {
		for m := k + 1; m < count; m++ {
			for _, pair := range [][2]int{{256, 256}, {256, -256}, {-1, 256}, {-1, -1}, {math.MinInt, math.MaxInt}, {math.MaxInt, math.MinInt}} {
				l := threeRows()
				*numbers(&l)[k], *numbers(&l)[m] = pair[0], pair[1]
				expectErrSize(t, l)
			}
		}
	}
}

// TestNumberAndCount: a number that is wrong, ahead of a list that is too long, and behind it.
func TestNumberAndCount(t *testing.T) {
	for k := range numbers(new(threeRows())) {
		for _, n := range []int{256, -1} {
			for at := range 3 {
				l := threeRows()
				*numbers(&l)[k] = n
				l.Rows[at].Before = append(l.Rows[at].Before, make([]api.Move, 254)...)
				expectErrSize(t, l)
				l.Rows[at].Before = nil
				l.Rows[at].After = append(l.Rows[at].After, make([]api.Move, 254)...)
				expectErrSize(t, l)
				l.Rows[at].After = nil
				l.Rows = append(l.Rows, make([]api.Row, 253)...)
				expectErrSize(t, l)
			}
		}
	}
}

func TestAllNumbers(t *testing.T) {
	for _, n := range []int{0, 1, 254, 255} {
		l := threeRows()
		for _, to := range numbers(&l) {
			*to = n
		}
		expectBytes(t, l, bytesOf(l))
	}
	for _, n := range wrongNumbers() {
		l := threeRows()
		for _, to := range numbers(&l) {
			*to = n
		}
		expectErrSize(t, l)
	}
}

func TestSlotsWithoutRows(t *testing.T) {
	for n := range 256 {
		expectBytes(t, placed(n), []byte{byte(n), 0})
	}
	for _, n := range wrongNumbers() {
		expectErrSize(t, placed(n))
	}
}

func TestRows(t *testing.T) {
	for count := range 256 {
		want := make([]byte, 2+8*count)
		want[1] = byte(count)
		expectBytes(t, api.Placed{Rows: make([]api.Row, count)}, want)
	}
	for _, count := range []int{256, 257, 511, 512, 65536, 65537} {
		expectErrSize(t, api.Placed{Rows: make([]api.Row, count)})
	}
}

// TestMoves: in the first row, one in the middle, and the last, ahead of the instruction and behind it.
func TestMoves(t *testing.T) {
	for at := range 3 {
		for behind := range 2 {
			with := func(count int) api.Placed {
				l := placed(7, make([]api.Row, 3)...)
				if behind == 1 {
					l.Rows[at].After = make([]api.Move, count)
				} else {
					l.Rows[at].Before = make([]api.Move, count)
				}
				return l
			}
			for _, count := range []int{0, 1, 2, 254, 255} {
				want := make([]byte, 2+3*8+9*count)
				want[0], want[1] = 7, 3
				want[2+8*at+6+behind] = byte(count)
				expectBytes(t, with(count), want)
			}
			for _, count := range []int{256, 257, 511, 512, 65536} {
				expectErrSize(t, with(count))
			}
		}
	}
}

// TestMostOfAll: there are no places with more bytes.
func TestMostOfAll(t *testing.T) {
	l := api.Placed{Slots: 255, Rows: make([]api.Row, 255)}
	for k := range l.Rows {
		l.Rows[k].Before = slices.Repeat([]api.Move{{To: at(255, 254), From: at(253, 252), Const: true, N: uint32(k)}}, 255)
		l.Rows[k].After = slices.Repeat([]api.Move{{To: at(1, 2), From: at(3, 4), N: max32 - uint32(k)}}, 255)
	}
	b := bytesOf(l)
	if len(b) != 2+255*(8+2*255*9) {
		t.Fatal(len(b))
	}
	expectBytes(t, l, b)
	expectErrForm(t, b[:len(b)-1])
	expectErrForm(t, append(b, 0))
	l.Rows[254].After[254].From.N = 256
	expectErrSize(t, l)
}

// TestTooManyOfTooMany: lists that lie one in another, and are one and the same, are too many moves to go through.
func TestTooManyOfTooMany(t *testing.T) {
	moves := make([]api.Move, 1<<16)
	rows := slices.Repeat([]api.Row{{Before: moves, After: moves}}, 1<<16)
	expectErrSize(t, api.Placed{Rows: rows})
	expectErrSize(t, api.Placed{Rows: rows[:255]})
	expectErrSize(t, api.Placed{Slots: -1, Rows: rows})
	for k := range rows {
		rows[k].Before, rows[k].After = moves[:255], moves[:255]
	}
	expectErrSize(t, api.Placed{Rows: rows})
	expectErrSize(t, api.Placed{Rows: rows[:256]})
}
