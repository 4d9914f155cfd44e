package code

import (
	"reflect"
	"slices"
	"testing"

	"loanbook/api"
)

// some are places without lists, with empty ones, and with long ones.
func some() []api.Placed {
	all := []api.Placed{threeRows()}
	for _, w := range allWritten() {
		all = append(all, w.places)
	}
	r := source(6)
	for range 50 {
		all = append(all, r.placed())
	}
	return all
}

// withMore lays something behind the length of each list: with it there would be more rows, more moves, and wrong ones.
func withMore(l api.Placed) api.Placed {
	more := api.Move{To: at(-1, 256), Const: true, N: 9}
	rows := make([]api.Row, len(l.Rows))
	for k, row := range l.Rows {
		row.Before = append(slices.Clone(row.Before), more)[:len(row.Before)]
		row.After = append(slices.Clone(row.After), more, more)[:len(row.After)]
		rows[k] = row
	}
	l.Rows = append(rows, api.Row{Dest: at(-1, -1), Before: []api.Move{more}})[:len(rows)]
	return l
}

// behind has the places with all that lies behind their lists' lengths.
func behind(l api.Placed) api.Placed {
	rows := slices.Clone(l.Rows[:cap(l.Rows)])
	for k, row := range rows {
		rows[k].Before = slices.Clone(row.Before[:cap(row.Before)])
		rows[k].After = slices.Clone(row.After[:cap(row.After)])
	}
	return api.Placed{Slots: l.Slots, Rows: rows}
}

func TestPutChangesNothing(t *testing.T) {
	for _, l := range some() {
		want := bytesOf(l)
		for _, wrong := range []bool{false, true} {
			handed := withMore(l)
			if wrong {
				handed.Slots = -1
			}
			was := behind(handed)
			got, e := Put(handed)
			if !wrong && (e != api.OK || !slices.Equal(got, want)) {
				t.Errorf("Put(%v) = %v, %d with more behind it, want %v", l, got, e, want)
			}
			if !reflect.DeepEqual(behind(handed), was) {
				t.Errorf("Put changed what was handed in, or what lies behind it: %v", handed)
			}
			got = got[:cap(got)]
			for k := range got {
				got[k] ^= 255
			}
			if !reflect.DeepEqual(behind(handed), was) {
				t.Errorf("what came out of Put shares memory with what was handed in: %v", handed)
			}
		}
		expectBytes(t, l, want)
	}
}

func TestPutKeepsNothing(t *testing.T) {
	for _, l := range some() {
		want := bytesOf(l)
		handed := copied(l)
		first, _ := Put(handed)
		for _, n := range numbers(&handed) {
			*n = -7
		}
		expectErrSize(t, handed)
		second, _ := Put(l)
		clear(second[:cap(second)])
		if !slices.Equal(first, want) {
			t.Errorf("what came out of Put was changed: %v, want %v", first, want)
		}
		expectBytes(t, l, want)
	}
}

func TestGetChangesNothing(t *testing.T) {
	for _, l := range some() {
		b := bytesOf(l)
		// Shorter ones, and one with a byte more, are refused, though what lies behind them would do.
		for length := range len(b) + 2 {
			handed := append(slices.Clone(b), 0, 0, 255, 1)
			was := slices.Clone(handed)
			got, e := Get(handed[:length])
			if (e == api.OK) != (length == len(b)) {
				t.Errorf("Get(%v) = %v, %d", handed[:length], got, e)
			}
			spoil(got)
			if !slices.Equal(handed, was) {
				t.Errorf("Get changed what was handed in, or shares memory with it: %v, was %v", handed, was)
			}
		}
	}
}

func TestGetKeepsNothing(t *testing.T) {
	for _, l := range some() {
		b := bytesOf(l)
		got, _ := Get(b)
		for k := range b {
			b[k] ^= 255
		}
		if !same(got, l) {
			t.Errorf("what came out of Get was changed: %v, want %v", got, l)
		}
	}
}

// spoil writes over all lists of the places, and over what lies behind their lengths.
func spoil(l api.Placed) {
	for _, row := range l.Rows {
		spoilMoves(row.Before)
		spoilMoves(row.After)
	}
	rows := l.Rows[:cap(l.Rows)]
	for k := range rows {
		rows[k] = api.Row{Dest: at(-1, -1)}
	}
}

func spoilMoves(moves []api.Move) {
	moves = moves[:cap(moves)]
	for k := range moves {
		moves[k] = api.Move{To: at(-1, -1), Const: true, N: 9}
	}
}

// TestListsAreApart writes over each list of an answer, and expects no other one to change, nor another answer.
func TestListsAreApart(t *testing.T) {
	for _, l := range some() {
		b := bytesOf(l)
		first, _ := Get(b)
		other, _ := Get(b)
		want := copied(other)
		for k := range other.Rows {
			spoilMoves(other.Rows[k].Before)
			want.Rows[k].Before = slices.Clone(other.Rows[k].Before)
			expectSame(t, other, want)
			spoilMoves(other.Rows[k].After)
			want.Rows[k].After = slices.Clone(other.Rows[k].After)
			expectSame(t, other, want)
		}
		spoil(other)
		expectSame(t, first, l)
		expectBytes(t, l, b)
	}
}

func expectSame(t *testing.T, got, want api.Placed) {
	t.Helper()
	if !same(got, want) {
		t.Fatalf("%v was changed: want %v", got, want)
	}
}

// TestOneListInManyPlaces: what is handed in may be shared within itself; what comes out is not.
func TestOneListInManyPlaces(t *testing.T) {
	moves := []api.Move{move(single(1), slot(2)), give(single(3), 4)}
	l := placed(1, api.Row{Before: moves, After: moves}, api.Row{Before: moves, After: moves[:1]})
	b := bytesOf(l)
	expectBytes(t, l, b)
	got, _ := Get(b)
	want := copied(l)
	spoilMoves(got.Rows[0].Before)
	want.Rows[0].Before = got.Rows[0].Before
	expectSame(t, got, want)
}

// TestNothingIsKept: what was asked before has no say in what is answered.
func TestNothingIsKept(t *testing.T) {
	for range 5 {
		for _, l := range some() {
			b := bytesOf(l)
			expectBytes(t, l, b)
			expectErrForm(t, b[:len(b)-1])
			l.Slots = 256
			expectErrSize(t, l)
		}
	}
}
