package code

import (
	"slices"
	"testing"

	"loanbook/api"
)

// changed has another byte in one place.
func changed(b []byte, at int, to byte) []byte {
	b = slices.Clone(b)
	b[at] = to
	return b
}

func TestNoBytes(t *testing.T) {
	expectErrForm(t, nil)
	expectErrForm(t, []byte{})
	expectErrForm(t, make([]byte, 0, 10))
}

func TestFewBytes(t *testing.T) {
	for first := range 256 {
		expectErrForm(t, []byte{byte(first)})
		for second := range 256 {
			if second == 0 {
				expectBytes(t, placed(first), []byte{byte(first), 0})
				continue
			}
			expectErrForm(t, []byte{byte(first), byte(second)})
		}
	}
}

func TestShorterAndLonger(t *testing.T) {
	for _, w := range append(allWritten(), written{threeRows(), bytesOf(threeRows())}) {
		for length := range len(w.bytes) {
			expectErrForm(t, w.bytes[:length])
		}
		for more := range 256 {
			expectErrForm(t, append(slices.Clone(w.bytes), byte(more)))
		}
		expectErrForm(t, slices.Concat(w.bytes, w.bytes))
	}
}

func TestRowsThatAreNotThere(t *testing.T) {
	for _, w := range append(allWritten(), written{threeRows(), bytesOf(threeRows())}) {
		for count := range 256 {
			if count != len(w.places.Rows) {
				expectErrForm(t, changed(w.bytes, 1, byte(count)))
			}
		}
	}
}

// TestMovesThatAreNotThere: what follows has two moves, of which no byte would do as a count.
func TestMovesThatAreNotThere(t *testing.T) {
	moves := slices.Repeat([]byte{9, 8, 7, 6, 1, 5, 4, 3, 2}, 2)
	before := slices.Concat([]byte{0, 1, 0, 0, 0, 0, 0, 0, 2}, moves, []byte{0})
	after := slices.Concat([]byte{0, 1, 0, 0, 0, 0, 0, 0, 0, 2}, moves)
	if !isRead(before) || !isRead(after) {
		t.Fatal("these are read")
	}
	for count := range 256 {
		if count != 2 {
			expectErrForm(t, changed(before, 8, byte(count)))
			expectErrForm(t, changed(after, 9, byte(count)))
		}
	}
}

// TestOtherCounts: with another count the bytes that follow may be other places, but places they are.
func TestOtherCounts(t *testing.T) {
	b := []byte{0, 1, 0, 0, 0, 0, 0, 0, 1, 1, 5, 3, 6, 0, 0, 7, 8, 9, 0}
	expectBytes(t, placed(0, api.Row{Before: []api.Move{{To: single(5), From: slot(6), N: 0x070809}}}), b)
	expectBytes(t, placed(0, api.Row{After: []api.Move{{To: at(5, 3), From: at(6, 0), N: 0x07080900}}}), changed(b, 8, 0))
	expectErrForm(t, changed(b, 8, 2))
}

// TestConst: a byte that is neither 0 nor 1, in each move of either list.
func TestConst(t *testing.T) {
	l := threeRows()
	b := bytesOf(l)
	at := headBytes
	met := 0
	for _, row := range l.Rows {
		at += fieldBytes
		for _, moves := range [][]api.Move{row.Before, row.After} {
			at++
			for range moves {
				for flag := range 256 {
					if read := expectAsIsRead(t, changed(b, at+constAt, byte(flag))); read != (flag < 2) {
						t.Fatalf("the byte %d for Const: read %t", flag, read)
					}
				}
				at += moveBytes
				met++
			}
		}
	}
	if met != 12 || at != len(b) {
		t.Errorf("%d moves were tried", met)
	}
}

func TestConstByHand(t *testing.T) {
	for _, flag := range []byte{2, 3, 127, 128, 254, 255} {
		expectErrForm(t, []byte{0, 1, 0, 0, 0, 0, 0, 0, 1, 1, 5, 0, 0, flag, 0, 0, 0, 7, 0})
		expectErrForm(t, []byte{0, 1, 0, 0, 0, 0, 0, 0, 0, 1, 1, 5, 0, 0, flag, 0, 0, 0, 7})
		// The same, and the bytes end too soon, or too late.
		expectErrForm(t, []byte{0, 1, 0, 0, 0, 0, 0, 0, 1, 1, 5, 0, 0, flag})
		expectErrForm(t, []byte{0, 1, 0, 0, 0, 0, 0, 0, 0, 1, 1, 5, 0, 0, flag, 0, 0, 0, 7, 0})
	}
}

// TestEachByteChanged: any byte, into any other.
func TestEachByteChanged(t *testing.T) {
	for _, w := range append(allWritten(), written{threeRows(), bytesOf(threeRows())}) {
		for at := range w.bytes {
			for to := range 256 {
				expectAsIsRead(t, changed(w.bytes, at, byte(to)))
			}
		}
	}
}

// TestAllCounts: bytes that ask for as much as there can be, and have nothing of it.
func TestAllCounts(t *testing.T) {
	for length := range 600 {
		expectErrForm(t, slices.Repeat([]byte{255}, length))
		expectAsIsRead(t, slices.Repeat([]byte{1}, length))
		expectAsIsRead(t, make([]byte, length))
	}
}
