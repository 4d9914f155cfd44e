package drive

import (
	"fmt"
	"strconv"
	"testing"

	"loanbook/api"
	"loanbook/build"
	"loanbook/code"
)

func TestNear(t *testing.T) {
	for _, c := range []struct {
		want  string
		lines []string
	}{
		{"bad 2", nil},
		{"bad 2", []string{"narrow"}},
		{"bad 2", []string{"narrow", "narrow", "wide"}},
		{"bad 2", []string{halt()}},
		{"bad 2", []string{"narrow", in(1)}},
		{"bad 2", []string{"wide", in(0)}},
		{"0", []string{"narrow", in(0)}},
		{"0", []string{"wide", halt()}},
		{"0", []string{"narrow", "narrow", in(0), out(0), in(1), out(1)}},
		{"0", []string{"narrow", "narrow", in(0), move(1, 0), out(0), out(1)}},
		{"1", []string{"narrow", "narrow", in(0), in(1), out(0), out(1)}},
		{"1", []string{"narrow", "narrow", in(0), in(1), out(0)}},
		{"1", []string{"narrow", "narrow", out(0), out(1)}},
		{"1", []string{"narrow", "narrow", "narrow", in(2), in(0), out(2), in(1), out(1)}},
		{"1", []string{"narrow", "wide", in(0), three(41, 1, 1, 1), out(0)}},
		{"2", []string{"narrow", "narrow", "narrow", in(0), move(1, 0), in(2), out(0), out(1)}},
		{"3", []string{"narrow", "narrow", "narrow", out(0), out(1), out(2)}},
		{"0", []string{"narrow", "narrow", "narrow", out(0), halt(), out(1), out(2)}},
	} {
		expectLast(t, c.want, joined(c.lines, []string{"near"})...)
		// No ins, and no run, are of weight.
		expectLast(t, c.want, joined(c.lines, []string{"ins 5 6", "run 9", "near"})...)
	}
}

// TestAllNear: of all temporaries that are needed at once each pair is counted once.
func TestAllNear(t *testing.T) {
	for count := 1; count <= api.MaxTemps; count++ {
		lines := times(count, "narrow")
		for k := range count {
			lines = append(lines, in(k))
		}
		for k := range count {
			lines = append(lines, out(k))
		}
		expectLast(t, fmt.Sprint(count*(count-1)/2), joined(lines, []string{"near"})...)
		// Others that are there, but never needed, and never given, are near to none.
		if count < api.MaxTemps {
			expectLast(t, fmt.Sprint(count*(count-1)/2), joined(lines, []string{"narrow", "near"})...)
			expectLast(t, fmt.Sprint(count*(count-1)/2), joined(lines, []string{"wide", "near"})...)
		}
	}
}

// bytesOf tells how many bytes there are, by the program that the oracle has after the lines.
func bytesOf(t *testing.T, singles int, lines ...string) string {
	t.Helper()
	var o oracle
	for _, line := range lines {
		o.answer(line)
	}
	l, e := build.Build(o.prog, api.Target{Singles: singles})
	if e != api.OK {
		t.Fatalf("Build(%v, %d) = %v, %d", o.prog, singles, l, e)
	}
	b, e := code.Put(l)
	if e != api.OK || len(b) != sizeOf(l) {
		t.Fatalf("Put(%v) = %v, %d, want %d bytes", l, b, e, sizeOf(l))
	}
	return strconv.Itoa(len(b))
}

// sizeOf counts what stands in the bytes: two numbers, eight of each row, nine of each move.
func sizeOf(l api.Placed) int {
	size := 2 + 8*len(l.Rows)
	for _, row := range l.Rows {
		size += 9 * (len(row.Before) + len(row.After))
	}
	return size
}

// crowd has all temporaries at once: on small targets some are in slots, and are moved.
func crowd() []string {
	lines := joined(times(8, "narrow"), times(4, "wide"))
	for k := range 8 {
		lines = append(lines, in(k))
	}
	for k := range 4 {
		lines = append(lines, three(5, 8+k, k, 2*k))
	}
	for k := range 8 {
		lines = append(lines, out(k))
	}
	for k := range 4 {
		lines = append(lines, high(k, 8+k), out(k))
	}
	return lines
}

func TestBytes(t *testing.T) {
	for _, lines := range [][]string{
		{"narrow", halt()},
		{"wide", halt(), halt(), jump(0)},
		{"narrow", in(0), out(0)},
		takesThree(),
		before(),
		crowd(),
		joined([]string{"narrow"}, times(api.MaxCode, in(0))),
	} {
		for _, singles := range targets() {
			want := bytesOf(t, singles, lines...)
			expectLast(t, want, joined(lines, []string{fmt.Sprint("bytes ", singles)})...)
		}
		for _, singles := range noTargets() {
			expectLast(t, "bad 2", joined(lines, []string{"bytes " + singles})...)
		}
	}
	if few, many := bytesOf(t, 4, crowd()...), bytesOf(t, api.MaxSingles, crowd()...); few == many {
		t.Errorf("the crowd has %s bytes on the smallest and on the greatest target: moves are not tried", few)
	}
}

func TestBytesOfNoProgram(t *testing.T) {
	for _, lines := range [][]string{nil, {"narrow"}, {halt()}, {"narrow", in(1)}, {"wide", in(0)}, {"ins 1 2"}} {
		for _, singles := range targets() {
			expectLast(t, "bad 2", joined(lines, []string{fmt.Sprint("bytes ", singles)})...)
		}
		for _, singles := range noTargets() {
			expectLast(t, "bad 2", joined(lines, []string{"bytes " + singles})...)
		}
	}
}

// TestBytesWithoutIns: they hang on the program alone, not on what comes in.
func TestBytesWithoutIns(t *testing.T) {
	lines := before()
	want := bytesOf(t, 4, lines...)
	for _, line := range []string{"ins", "ins 1 2 3", "run 5", "run 5000", "near", "?"} {
		expectLast(t, want, joined(lines, []string{line, "bytes 4"})...)
	}
}
