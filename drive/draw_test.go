package drive

import (
	"fmt"
	"regexp"
	"slices"
	"strings"
	"testing"

	"loanbook/api"
)

// source is a row of numbers that looks like chance, and is the same each time.
type source uint64

func (r *source) below(n int) int {
	*r = *r*6364136223846793005 + 1442695040888963407
	return int(uint64(*r)>>33) % n
}

func oneOf[T any](r *source, list ...T) T { return list[r.below(len(list))] }

func (r *source) number() uint32 {
	return oneOf(r, 0, 1, 2, 3, 9, 10, 1<<31, max32-1, max32, uint32(r.below(1<<31)))
}

// temp is a temporary of the width that is asked for, if there is one.
func (r *source) temp(wide []bool, isWide bool) int {
	from := r.below(len(wide))
	for k := range wide {
		if t := (from + k) % len(wide); wide[t] == isWide {
			return t
		}
	}
	return from
}

// instruction is one that may be, if there are temporaries of both widths, and it leads to no line that is still to come. It leads back, or on: on more often, so that runs end.
func (r *source) instruction(wide []bool, at, count int) api.Ins {
	narrow := func() int { return r.temp(wide, false) }
	double := func() int { return r.temp(wide, true) }
	to := r.below(count)
	if r.below(4) > 0 {
		to = at + r.below(count-at)
	}
	switch r.below(14) {
	case 0:
		return api.Ins{Op: api.XConst, Dest: narrow(), N: r.number()}
	case 1:
		return api.Ins{Op: api.XMove, Dest: narrow(), A: narrow()}
	case 2:
		return api.Ins{Op: api.XMove, Dest: double(), A: double()}
	case 3, 4:
		return api.Ins{Op: api.XIn, Dest: narrow()}
	case 5, 6, 7:
		return api.Ins{Op: api.XOut, A: narrow()}
	case 8:
		return api.Ins{Op: api.XPair, Dest: double(), A: narrow(), B: narrow()}
	case 9:
		return api.Ins{Op: oneOf(r, api.XLow, api.XHigh), Dest: narrow(), A: double()}
	case 10:
		return oneOf(r, api.Ins{Op: api.XJump, C: to}, api.Ins{Op: api.XHalt})
	case 11:
		return api.Ins{Op: api.XIf, A: narrow(), C: to}
	case 12:
		return api.Ins{Op: api.XOp + 1 + r.below(6), Dest: narrow(), A: narrow(), B: narrow()}
	}
	return api.Ins{Op: api.XWide + 1 + r.below(5), Dest: double(), A: double(), B: double()}
}

func (r *source) ins() string {
	line := "ins"
	for range oneOf(r, 0, 1, r.below(8), r.below(8), api.MaxIns, api.MaxIns+1, r.below(60)) {
		line += fmt.Sprint(" ", r.number())
	}
	return line
}

func (r *source) steps() uint32 {
	return oneOf(r, 0, 1, uint32(r.below(10)), uint32(r.below(100)), 200, 200, 3000, 3001, max32)
}

func (r *source) singles() uint32 {
	return oneOf(r, 4, 4, 4, 6, 8, uint32(r.below(20)), 2*uint32(r.below(8))+2, max32)
}

// question adds nothing to the program.
func (r *source) question() string {
	switch r.below(6) {
	case 0:
		return fmt.Sprint("run ", r.steps())
	case 1, 2:
		return fmt.Sprintf("on %d %d", r.singles(), r.steps())
	case 3:
		return "near"
	case 4:
		return fmt.Sprint("bytes ", r.singles())
	}
	return r.ins()
}

// spoilt is a line in which one sign was changed, left out, or put in; it may still be known.
func (r *source) spoilt(line string) string {
	b := []byte(line)
	at := r.below(len(b))
	sign := oneOf(r, ' ', '\t', '\r', '0', '1', '9', '+', '-', 'a', 0, 128, 255, byte(r.below(256)))
	switch r.below(3) {
	case 0:
		b = slices.Delete(b, at, at+1)
	case 1:
		b = slices.Insert(b, at, sign)
	default:
		b[at] = sign
	}
	return string(b)
}

// script has temporaries and code, with questions between and behind; some lines of it are spoilt, as far as is asked.
func (r *source) script(spoil int) string {
	temps := oneOf(r, 1+r.below(4), 1+r.below(api.MaxTemps+1), api.MaxTemps)
	count := oneOf(r, 1+r.below(6), 1+r.below(30), r.below(44)+1)
	lines := []string{}
	add := func(line string) {
		lines = append(lines, line)
		for r.below(12) == 0 {
			lines = append(lines, r.question())
		}
	}
	wide := make([]bool, temps)
	for k := range wide {
		wide[k] = k > 0 && r.below(3) == 0 || k == 1
		add(map[bool]string{false: "narrow", true: "wide"}[wide[k]])
	}
	for k := range count {
		add(coded(r.instruction(wide, k, count)))
	}
	for range 1 + r.below(12) {
		lines = append(lines, r.question())
	}
	for k, line := range lines {
		if r.below(100) < spoil {
			lines[k] = r.spoilt(line)
		}
	}
	return strings.Join(lines, "\n") + oneOf(r, "", "\n", "\n", "\n\n")
}

var form = regexp.MustCompile(`\A((\?|ok \d+|bad [123]|\d+|[012] \d+( \d+)*)\n)*\z`)

// expectPlayed asks for the oracle's answer, the same each time, of the form that answers have.
func expectPlayed(t *testing.T, asked string) string {
	t.Helper()
	expect(t, asked, played(asked))
	answer := Play(asked)
	if !form.MatchString(answer) {
		t.Fatalf("Play(%q) = %q, which has not the form of answers", asked, answer)
	}
	return answer
}

// met counts the kinds of answers, so that scripts are not all alike.
type met struct{ ok, bad1, bad2, bad3, refused, runs, halted, ended, counts int }

func (m *met) add(answer string) {
	for line := range strings.Lines(answer) {
		switch words := strings.Fields(line); {
		case words[0] == "ok":
			m.ok++
		case line == "bad 1\n":
			m.bad1++
		case line == "bad 2\n":
			m.bad2++
		case line == "bad 3\n":
			m.bad3++
		case line == "?\n":
			m.refused++
		case len(words) == 1:
			m.counts++
		case words[0] == "0":
			m.runs++
		case words[0] == "1":
			m.halted++
		case words[0] == "2":
			m.ended++
		}
	}
}

func (m *met) least() int {
	return min(m.ok, m.bad1, m.bad2, m.bad3, m.refused, m.runs, m.halted, m.ended, m.counts)
}

func TestDrawn(t *testing.T) {
	r := source(1)
	var all met
	for k := range 4000 {
		all.add(expectPlayed(t, r.script(k%4)))
	}
	if all.least() < 300 {
		t.Errorf("the scripts tried are too much alike: %+v", all)
	}
}

// TestDrawnBeginnings: the answer to each beginning that ends with a byte 10 is the beginning of the answer.
func TestDrawnBeginnings(t *testing.T) {
	r := source(2)
	for k := range 400 {
		asked := r.script(k % 10)
		answer := Play(asked)
		for at := range len(asked) {
			if asked[at] != '\n' {
				continue
			}
			head := asked[:at+1]
			got := Play(head)
			if !strings.HasPrefix(answer, got) {
				t.Fatalf("Play(%q) = %q, but of its beginning %q %q", asked, answer, head, got)
			}
			if want := min(strings.Count(head, "\n"), 60); strings.Count(got, "\n") != want {
				t.Fatalf("Play(%q) = %q, which are not %d lines", head, got, want)
			}
		}
	}
}

// TestDrawnOnAsRun: what is told of a program in places is what is told of it without.
func TestDrawnOnAsRun(t *testing.T) {
	r := source(3)
	var all met
	for range 1500 {
		wide := []bool{false, true}
		for range r.below(api.MaxTemps - 1) {
			wide = append(wide, r.below(3) == 0)
		}
		lines := []string{}
		for _, is := range wide {
			lines = append(lines, map[bool]string{false: "narrow", true: "wide"}[is])
		}
		count := 1 + r.below(api.MaxCode-2)
		for k := range count {
			lines = append(lines, coded(r.instruction(wide, k, count)))
		}
		lines = append(lines, r.ins())
		steps := r.steps()
		first := len(Play(script(lines...)))
		answer := Play(script(append(lines, fmt.Sprint("run ", steps))...))
		all.add(answer[first:])
		for _, singles := range targets() {
			expect(t, script(append(lines, fmt.Sprintf("on %d %d", singles, steps))...), answer)
		}
	}
	if min(all.bad1, all.bad3, all.runs, all.halted, all.ended) < 50 {
		t.Errorf("the programs tried are too much alike: %+v", all)
	}
}

// TestDrawnBytes: mostly of the signs that lines have, so that some are known.
func TestDrawnBytes(t *testing.T) {
	r := source(4)
	pieces := []string{"narrow", "wide", "code", "ins", "run", "on", "near", "bytes", " ", " ", " ", " ", "\n", "\n", "\n", "0", "1", "4", "10", "3000", "4294967295", "4294967296", "\t", "\r", "\x00", "\x80", "\xff", "+", "-"}
	var all met
	for range 40000 {
		asked := ""
		for range r.below(40) {
			asked += oneOf(&r, pieces...)
		}
		all.add(expectPlayed(t, asked))
	}
	if min(all.ok, all.bad2, all.refused) < 500 {
		t.Errorf("the scripts tried are too much alike: %+v", all)
	}
}

func TestDrawnBytesOfAnyKind(t *testing.T) {
	r := source(5)
	for range 5000 {
		b := make([]byte, r.below(200))
		for k := range b {
			b[k] = byte(r.below(256))
		}
		expectPlayed(t, string(b))
	}
}
