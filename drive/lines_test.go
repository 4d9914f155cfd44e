package drive

import (
	"fmt"
	"strings"
	"testing"

	"loanbook/api"
)

const max32 = 1<<32 - 1

// script is so many lines, each with a byte 10 behind it.
func script(lines ...string) string {
	var b strings.Builder
	for _, line := range lines {
		b.WriteString(line + "\n")
	}
	return b.String()
}

// coded is the line of an instruction.
func coded(i api.Ins) string {
	return fmt.Sprintf("code %d %d %d %d %d %d", i.Op, i.Dest, i.A, i.B, i.C, i.N)
}

func in(dest int) string             { return coded(api.Ins{Op: api.XIn, Dest: dest}) }
func out(a int) string               { return coded(api.Ins{Op: api.XOut, A: a}) }
func give(dest int, n uint32) string { return coded(api.Ins{Op: api.XConst, Dest: dest, N: n}) }
func move(dest, a int) string        { return coded(api.Ins{Op: api.XMove, Dest: dest, A: a}) }
func low(dest, a int) string         { return coded(api.Ins{Op: api.XLow, Dest: dest, A: a}) }
func high(dest, a int) string        { return coded(api.Ins{Op: api.XHigh, Dest: dest, A: a}) }
func jump(c int) string              { return coded(api.Ins{Op: api.XJump, C: c}) }
func onIf(a, c int) string           { return coded(api.Ins{Op: api.XIf, A: a, C: c}) }
func halt() string                   { return coded(api.Ins{Op: api.XHalt}) }

func three(op, dest, a, b int) string { return coded(api.Ins{Op: op, Dest: dest, A: a, B: b}) }

// times is the same line, so many times.
func times(count int, line string) []string {
	lines := make([]string, count)
	for k := range lines {
		lines[k] = line
	}
	return lines
}

// counted is what is answered to lines of which each adds one.
func counted(count int) []string {
	lines := make([]string, count)
	for k := range lines {
		lines[k] = fmt.Sprint("ok ", k+1)
	}
	return lines
}

// joined makes one list of lines of several.
func joined(lists ...[]string) []string {
	var all []string
	for _, list := range lists {
		all = append(all, list...)
	}
	return all
}

func expect(t *testing.T, asked, want string) {
	t.Helper()
	for range 2 {
		if got := Play(asked); got != want {
			t.Fatalf("Play(%.900q)\n= %.900q\nwant %.900q", asked, got, want)
		}
	}
}

// expectAnswers asks for an answer to each line.
func expectAnswers(t *testing.T, lines, want []string) {
	t.Helper()
	expect(t, script(lines...), script(want...))
}

// expectLast asks for the answer to the last line alone.
func expectLast(t *testing.T, want string, lines ...string) {
	t.Helper()
	answers := strings.Split(Play(script(lines...)), "\n")
	if len(answers) != len(lines)+1 {
		t.Fatalf("Play(%q) has %d answers, want %d", lines, len(answers)-1, len(lines))
	}
	if got := answers[len(lines)-1]; got != want {
		t.Fatalf("to the last line of %q the answer is %q, want %q", lines, got, want)
	}
}

func TestNoScript(t *testing.T) { expect(t, "", "") }

func TestBytes10Alone(t *testing.T) {
	for count := 1; count <= 60; count++ {
		expect(t, strings.Repeat("\n", count), strings.Repeat("?\n", count))
	}
}

func TestLinesAreParted(t *testing.T) {
	for _, c := range [][2]string{
		{"narrow", "ok 1\n"},
		{"narrow\n", "ok 1\n"},
		{"narrow\n\n", "ok 1\n?\n"},
		{"narrow\n\n\n", "ok 1\n?\n?\n"},
		{"\nnarrow", "?\nok 1\n"},
		{"\n\nnarrow\n", "?\n?\nok 1\n"},
		{"narrow\nwide", "ok 1\nok 2\n"},
		{"narrow\nwide\n", "ok 1\nok 2\n"},
		{"narrow\n\n\nwide", "ok 1\n?\n?\nok 2\n"},
		{"narrow\n ", "ok 1\n?\n"},
		{"narrow\n?", "ok 1\n?\n"},
		{"x", "?\n"},
		{"x\n", "?\n"},
		{"ins 1 2\nins 3", "ok 2\nok 1\n"},
		{"ins 1\n2", "ok 1\n?\n"},
		{"ins\r\nins", "?\nok 0\n"},
		{"ins\u2028ins\u0085ins\vins\fins", "?\n"},
	} {
		expect(t, c[0], c[1])
	}
}

// TestFirstLinesCount: each line adds a number to how many ins there are, so that each answer is another one.
func TestFirstLinesCount(t *testing.T) {
	for _, count := range []int{1, 2, 58, 59, 60, 61, 62, 100, 120, 1000, 30000} {
		var lines, want []string
		for k := range count {
			lines = append(lines, "ins"+strings.Repeat(" 7", k%100))
			want = append(want, fmt.Sprint("ok ", k%100))
		}
		want = want[:min(count, 60)]
		expectAnswers(t, lines, want)
		expect(t, strings.TrimSuffix(script(lines...), "\n"), script(want...))
	}
}

// TestAllLinesCountAlike: lines that are not known, and empty ones, are among the 60, too.
func TestAllLinesCountAlike(t *testing.T) {
	for _, line := range []string{"", "?", "narrow 1", "\x00", "ins 00"} {
		for _, count := range []int{58, 59, 60, 61, 500} {
			unknown := times(count, line)
			want := joined(times(count, "?"), []string{"ok 1"})
			want = want[:min(len(want), 60)]
			expectAnswers(t, joined(unknown, []string{"narrow"}), want)
			expect(t, script(unknown...)+"narrow", script(want...))
		}
	}
}

func Test60thLine(t *testing.T) {
	program := []string{"narrow", in(0), out(0), "ins 5"}
	answers := []string{"ok 1", "ok 1", "ok 2", "ok 1"}
	full := joined(program, times(55, "run 9"))
	want := joined(answers, times(55, "2 2 5"))
	expect(t, script(full...)+"near", script(want...)+"0\n")
	expect(t, script(full...)+"near\n", script(want...)+"0\n")
	expect(t, script(full...)+"near\nnear", script(want...)+"0\n")
	expect(t, script(full...)+"near\n\n", script(want...)+"0\n")
	expect(t, script(full...), script(want...))
}

// TestLongScripts: what is beyond the first lines, or is one line that is not known, is no matter, however long it is.
func TestLongScripts(t *testing.T) {
	const long = 1 << 24
	expect(t, script(times(60, "near")...)+strings.Repeat("x\n", long/2), script(times(60, "bad 2")...))
	expect(t, strings.Repeat("\n", long), script(times(60, "?")...))
	for _, piece := range []string{"x", " ", "narrow ", "0 ", "ins", "9", "\x00"} {
		expect(t, strings.Repeat(piece, long/len(piece)), "?\n")
	}
	expect(t, "ins"+strings.Repeat(" 4", long/2)+"\nins", fmt.Sprintf("ok %d\nok 0\n", long/2))
	expect(t, "ins "+strings.Repeat("4", long), "?\n")
	expect(t, "ins "+strings.Repeat("0", long), "?\n")
	expect(t, "ins"+strings.Repeat(" 4", long/2)+" ", "?\n")
}
