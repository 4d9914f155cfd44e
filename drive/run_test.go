package drive

import (
	"fmt"
	"strings"
	"testing"

	"loanbook/api"
)

// targets has the Singles of each target that may be.
func targets() []int { return []int{4, 6, 8, 10, 12, 14, 16} }

// noTargets has Singles of some that may not.
func noTargets() []string {
	return []string{"0", "1", "2", "3", "5", "7", "9", "15", "17", "18", "20", "255", "256", "260", "65540", "2147483648", "2147483652", "4294967292", "4294967294", "4294967295"}
}

// expectRun asks for the same answer of `run` and, of each target that may be, of `on`.
func expectRun(t *testing.T, lines []string, steps, want string) {
	t.Helper()
	expectLast(t, want, joined(lines, []string{"run " + steps})...)
	for _, singles := range targets() {
		expectLast(t, want, joined(lines, []string{fmt.Sprintf("on %d %s", singles, steps)})...)
	}
}

func TestNoProgram(t *testing.T) {
	for _, lines := range [][]string{nil, {"narrow"}, {"wide", "narrow"}, {halt()}, {"ins 1 2"}} {
		for _, steps := range []string{"0", "1", "3000", "3001", "4294967295"} {
			expectRun(t, lines, steps, "bad 2")
		}
	}
}

func TestEnds(t *testing.T) {
	lines := []string{"narrow", in(0), out(0), out(0), "ins 8"}
	for steps, want := range []string{"0 0", "0 1", "0 2 8", "2 3 8 8", "2 3 8 8"} {
		expectRun(t, lines, fmt.Sprint(steps), want)
	}
	expectRun(t, lines, "3000", "2 3 8 8")
}

func TestHalts(t *testing.T) {
	lines := []string{"narrow", in(0), out(0), halt(), out(0), "ins 8"}
	for steps, want := range []string{"0 0", "0 1", "0 2 8", "1 3 8", "1 3 8"} {
		expectRun(t, lines, fmt.Sprint(steps), want)
	}
	expectRun(t, lines, "3000", "1 3 8")
}

func TestRunsOn(t *testing.T) {
	lines := []string{"narrow", out(0), jump(0)}
	for _, steps := range []int{0, 1, 2, 9, 10, 255, 256, 1000, 2999, 3000} {
		expectRun(t, lines, fmt.Sprint(steps), fmt.Sprintf("0 %d%s", steps, strings.Repeat(" 0", (steps+1)/2)))
	}
}

// TestCountsDown: from what comes in down to 0.
func TestCountsDown(t *testing.T) {
	lines := []string{"narrow", "narrow", in(0), give(1, 1), out(0), three(22, 0, 0, 1), onIf(0, 2), halt(), "ins 5"}
	expectRun(t, lines, "3000", "1 18 5 4 3 2 1")
	expectRun(t, lines, "17", "0 17 5 4 3 2 1")
	expectRun(t, joined(lines, []string{"ins 4294967295"}), "9", "0 9 4294967295 4294967294 4294967293")
}

func TestGreatest(t *testing.T) {
	expectRun(t, []string{"narrow", in(0), out(0), "ins 4294967295"}, "5", "2 2 4294967295")
	expectRun(t, []string{"narrow", give(0, max32), out(0)}, "5", "2 2 4294967295")
	wide := []string{"narrow", "wide", "narrow", in(0), three(5, 1, 0, 0), low(2, 1), out(2), high(2, 1), out(2), "ins 4294967295"}
	expectRun(t, wide, "50", "2 6 4294967295 4294967295")
	// The greatest wide number, doubled, and multiplied with itself.
	for _, c := range [][2]string{{three(41, 1, 1, 1), "4294967294 4294967295"}, {three(43, 1, 1, 1), "1 0"}, {three(45, 1, 1, 1), "0 0"}, {three(44, 1, 1, 1), "4294967295 4294967295"}} {
		lines := joined(wide[:5], []string{c[0]}, wide[5:])
		expectRun(t, lines, "50", "2 7 "+c[1])
	}
}

// TestManyWide: more wide temporaries than any target has registers for.
func TestManyWide(t *testing.T) {
	lines := joined([]string{"narrow", "narrow"}, times(10, "wide"), []string{in(0), in(1), "ins 7 4294967295"})
	want := ""
	for k := range 10 {
		lines = append(lines, three(5, 2+k, k%2, 1-k%2))
	}
	for k := range 10 {
		lines = append(lines, high(0, 2+k), out(0))
		want += []string{" 4294967295", " 7"}[k%2]
	}
	expectRun(t, lines, "100", "2 32"+want)
}

func TestStepsTooMany(t *testing.T) {
	lines := []string{"narrow", out(0), halt()}
	expectRun(t, lines, "3000", "1 2 0")
	for _, steps := range []string{"3001", "3002", "65536", "2147483647", "2147483648", "4294967294", "4294967295"} {
		expectRun(t, lines, steps, "bad 3")
	}
}

func TestInsTooMany(t *testing.T) {
	lines := []string{"narrow", in(0), out(0)}
	most := "ins" + strings.Repeat(" 6", api.MaxIns)
	expectRun(t, joined(lines, []string{most}), "10", "2 2 6")
	for _, more := range []int{1, 2, 60, 256, 1 << 16} {
		expectRun(t, joined(lines, []string{most + strings.Repeat(" 6", more)}), "10", "bad 1")
	}
}

// TestFirstError: of several that apply, the program's, or the target's, comes first, then that of the ins, then that of the steps.
func TestFirstError(t *testing.T) {
	many := "ins" + strings.Repeat(" 6", api.MaxIns+1)
	expectRun(t, []string{"narrow", in(1), many}, "3001", "bad 2")
	expectRun(t, []string{"narrow", in(1), many}, "10", "bad 2")
	expectRun(t, []string{"narrow", in(1)}, "3001", "bad 2")
	expectRun(t, []string{"narrow", in(0), many}, "3001", "bad 1")
	expectRun(t, []string{"narrow", in(0)}, "3001", "bad 3")
	for _, singles := range noTargets() {
		expectLast(t, "bad 2", "narrow", in(0), many, "on "+singles+" 3001")
		expectLast(t, "bad 2", "narrow", in(0), "on "+singles+" 3001")
	}
}

func TestNoTargets(t *testing.T) {
	for _, singles := range noTargets() {
		for _, steps := range []string{"0", "1", "100", "3000", "3001", "4294967295"} {
			expectLast(t, "bad 2", "narrow", in(0), out(0), "ins 6", "on "+singles+" "+steps)
			expectLast(t, "bad 2", "on "+singles+" "+steps)
		}
	}
}

// TestSinglesAheadOfSteps: the first of the numbers of `on` is the target's.
func TestSinglesAheadOfSteps(t *testing.T) {
	lines := []string{"narrow", out(0), jump(0)}
	expectLast(t, "0 8 0 0 0 0", joined(lines, []string{"on 4 8"})...)
	expectLast(t, "0 4 0 0", joined(lines, []string{"on 8 4"})...)
	expectLast(t, "0 5 0 0 0", joined(lines, []string{"on 6 5"})...)
	expectLast(t, "bad 2", joined(lines, []string{"on 5 6"})...)
}

// TestWrongPrograms: each is wrong in one thing alone.
func TestWrongPrograms(t *testing.T) {
	temps := []string{"narrow", "wide"}
	expectRun(t, joined(temps, []string{three(5, 1, 0, 0), low(0, 1), jump(2)}), "3", "0 3")
	for _, line := range []string{in(1), in(2), out(1), move(0, 1), move(1, 0), low(1, 0), high(0, 0), three(5, 0, 0, 0), jump(1), jump(5), onIf(0, 1), onIf(1, 0), give(1, 0), three(21, 0, 0, 1), three(41, 1, 1, 0), three(46, 1, 1, 1), "code 0 0 0 0 0 0", "code 11 0 0 0 0 0", "code 20 0 0 0 0 0", "code 4294967295 0 0 0 0 0"} {
		expectRun(t, joined(temps, []string{line}), "3", "bad 2")
	}
}

// TestGrows: a program may be run, added to, and run again; where it leads to an instruction that is still to come, it may not be till then.
func TestGrows(t *testing.T) {
	expectAnswers(t,
		[]string{"run 5", "narrow", "run 5", in(0), "run 5", out(0), "run 5", "ins 7", "run 5", jump(4), "run 5", "on 4 5", "near", out(0), "run 9", halt(), "run 9", "on 4 9", "wide", "run 9", high(1, 0), "run 9"},
		[]string{"bad 2", "ok 1", "bad 2", "ok 1", "2 1", "ok 2", "2 2 0", "ok 1", "2 2 7", "ok 3", "bad 2", "bad 2", "bad 2", "ok 4", "bad 2", "ok 5", "1 4 7", "1 4 7", "ok 2", "1 4 7", "ok 6", "bad 2"})
}
