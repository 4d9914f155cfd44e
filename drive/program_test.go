package drive

import (
	"fmt"
	"strings"
	"testing"

	"loanbook/api"
)

func TestTemps(t *testing.T) {
	for _, word := range []string{"narrow", "wide"} {
		for count := range api.MaxTemps + 1 {
			expectAnswers(t, times(count, word), counted(count))
		}
		over := times(api.MaxTemps+3, word)
		expectAnswers(t, over, joined(counted(api.MaxTemps), times(3, "?")))
	}
	expectAnswers(t, joined(times(6, "wide"), times(6, "narrow"), []string{"wide", "narrow"}), joined(counted(12), times(2, "?")))
}

// TestTempsInOrder: a wide one in each place but one, which is narrow, and is the only one that something may come in to.
func TestTempsInOrder(t *testing.T) {
	for count := 1; count <= api.MaxTemps; count++ {
		for narrow := range count {
			words := times(count, "wide")
			words[narrow] = "narrow"
			for dest := range count + 1 {
				want := "bad 2"
				if dest == narrow {
					want = "2 1"
				}
				expectLast(t, want, joined(words, []string{in(dest), "run 5"})...)
			}
		}
	}
}

// TestTempsStay: one more than may be leaves them as they were.
func TestTempsStay(t *testing.T) {
	last := api.MaxTemps - 1
	lines := joined(times(last, "wide"), []string{"narrow"}, []string{in(last), low(last, 0), "run 5", "wide", "narrow", "run 5", "on 4 5"})
	expectAnswers(t, lines, joined(counted(api.MaxTemps), []string{"ok 1", "ok 2", "2 2", "?", "?", "2 2", "2 2"}))
	expectLast(t, "bad 2", joined(lines, []string{in(last + 1), "run 5"})...)
}

func TestCode(t *testing.T) {
	for count := range api.MaxCode + 1 {
		expectAnswers(t, times(count, halt()), counted(count))
	}
	for _, more := range []int{1, 2, 20} {
		expectAnswers(t, times(api.MaxCode+more, halt()), joined(counted(api.MaxCode), times(more, "?")))
	}
}

// TestCodeStays: one more than may be leaves it as it was, and is no end of the script.
func TestCodeStays(t *testing.T) {
	lines := joined([]string{"narrow"}, times(api.MaxCode-1, in(0)), []string{out(0), "ins" + strings.Repeat(" 7", api.MaxCode), "run 99", halt(), "code 99 0 0 0 0 0", "run 99", "on 4 99"})
	shown := fmt.Sprintf("2 %d 7", api.MaxCode)
	expectAnswers(t, lines, joined([]string{"ok 1"}, counted(api.MaxCode), []string{fmt.Sprint("ok ", api.MaxCode), shown, "?", "?", shown, shown}))
}

// TestCodeOfAnyNumbers: each is taken, whether such an instruction may be or not, as is told by `run` alone.
func TestCodeOfAnyNumbers(t *testing.T) {
	for field := range 6 {
		for _, text := range []string{"0", "4294967295"} {
			for _, other := range []string{"0", "4294967295"} {
				numbers := times(6, other)
				numbers[field] = text
				line := "code " + strings.Join(numbers, " ")
				expectAnswers(t, []string{line, "narrow", line, "run 5", "on 4 5", "near", "bytes 4"}, []string{"ok 1", "ok 1", "ok 2", "bad 2", "bad 2", "bad 2", "bad 2"})
			}
		}
	}
}

// TestFields: each of an instruction's numbers goes to its own field. A program that halts is changed in each field that is not named, and so may not be.
func TestFields(t *testing.T) {
	expectLast(t, "1 1", "narrow", "code 10 0 0 0 0 0", "run 5")
	for field := 1; field < 6; field++ {
		for _, text := range []string{"1", "4294967295"} {
			numbers := []string{"10", "0", "0", "0", "0", "0"}
			numbers[field] = text
			expectLast(t, "bad 2", "narrow", "narrow", "code "+strings.Join(numbers, " "), "run 5")
		}
	}
	ahead := []string{"narrow", "narrow", "narrow", in(0), in(1), in(2), "ins 10 200 3000"}
	for _, c := range [][2]string{
		{"code 1 0 0 0 0 5", "5 200 3000"},
		{"code 1 2 0 0 0 4294967295", "10 200 4294967295"},
		{"code 2 0 1 0 0 0", "200 200 3000"},
		{"code 2 2 0 0 0 0", "10 200 10"},
		{"code 22 0 1 2 0 0", "4294964496 200 3000"},
		{"code 22 0 2 1 0 0", "2800 200 3000"},
		{"code 22 2 1 0 0 0", "10 200 190"},
		{"code 22 1 2 0 0 0", "10 2990 3000"},
	} {
		expectLast(t, "2 7 "+c[1], joined(ahead, []string{c[0], out(0), out(1), out(2), "run 50"})...)
	}
	for to := 4; to < 7; to++ {
		steps := 11 - to
		want := fmt.Sprintf("2 %d%s", steps, strings.Join([]string{" 10", " 200", " 3000"}[to-4:], ""))
		expectLast(t, want, joined(ahead, []string{fmt.Sprintf("code 8 0 0 0 %d 0", to), out(0), out(1), out(2), "run 50"})...)
		expectLast(t, want, joined(ahead, []string{fmt.Sprintf("code 9 0 2 0 %d 0", to), out(0), out(1), out(2), "run 50"})...)
	}
}

func TestIns(t *testing.T) {
	for _, count := range []int{0, 1, 2, 3, api.MaxIns - 1, api.MaxIns, api.MaxIns + 1, 255, 256, 1000} {
		expect(t, "ins"+strings.Repeat(" 9", count), fmt.Sprintf("ok %d\n", count))
	}
}

// takesThree lets three come in, and out again.
func takesThree() []string {
	return []string{"narrow", in(0), out(0), in(0), out(0), in(0), out(0)}
}

// TestInsAnew: the new ones alone are the ins, however many there were; and those that are refused are none.
func TestInsAnew(t *testing.T) {
	for _, c := range [][2]string{
		{"run 9", "0 0 0"},
		{"ins", "0 0 0"},
		{"ins 4", "4 0 0"},
		{"ins 4 5 6 7", "4 5 6"},
		{"ins 4 5 6|ins 7", "7 0 0"},
		{"ins 4 5 6|ins", "0 0 0"},
		{"ins 4|ins 5 6 7", "5 6 7"},
		{"ins 4 5 6|ins 4294967295 0 1|ins 0 4294967295", "0 4294967295 0"},
		{"ins 4 5 6|ins 7 08", "4 5 6"},
		{"ins 4 5 6|ins ", "4 5 6"},
		{"ins 4 5 6|ins 7 8 4294967296", "4 5 6"},
		{"ins" + strings.Repeat(" 1", api.MaxIns+1) + "|ins 8 9", "8 9 0"},
	} {
		lines := joined(takesThree(), strings.Split(c[0], "|"))
		expectLast(t, "2 6 "+c[1], joined(lines, []string{"run 9"})...)
		// They are not used up: the next run has them anew, in places and without.
		expectLast(t, "2 6 "+c[1], joined(lines, []string{"run 9", "on 4 9", "run 9"})...)
		expectLast(t, "2 6 "+c[1], joined(lines, []string{"run 9", "run 9", "on 8 9"})...)
	}
}

// TestNothingIsKept: each script begins with no program, and no ins.
func TestNothingIsKept(t *testing.T) {
	for range 3 {
		expectAnswers(t, joined(before(), []string{"run 100"}), joined([]string{"ok 1", "ok 2", "ok 3"}, counted(6), []string{"ok 2", "2 6 3 4"}))
		expectAnswers(t, []string{"run 100", "near", "narrow", in(0), out(0), "run 100"}, []string{"bad 2", "bad 2", "ok 1", "ok 1", "ok 2", "2 2 0"})
	}
}
