package check

import (
	"fmt"
	"strings"
	"testing"

	"loanbook/api"
)

// outset is H1 and H2 of the beginning, written in the order of H4.
func outset(p api.Prog, singles, slots int) string {
	var words []string
	add := func(form string, numbers ...any) { words = append(words, fmt.Sprintf(form, numbers...)) }
	has := func(kind string, n int, narrow, wide bool) {
		for k, w := range p.Wide {
			if w && wide || !w && narrow {
				add("%s%d:t%d", kind, n, k)
			}
		}
	}
	for k, w := range p.Wide {
		if !w {
			add("t%d=0", k)
		}
	}
	for n := range singles {
		add("s%d=0", n)
		has("s", n, true, false)
	}
	for n := range singles / 2 {
		has("d", n, false, true)
	}
	for n := range slots {
		add("k%d=0", n)
		has("k", n, true, true)
	}
	return strings.Join(words, " ")
}

func TestFirstInstruction(t *testing.T) {
	const small = "t0=0 t1=0 s0=0 s0:t0 s0:t1 s1=0 s1:t0 s1:t1 s2=0 s2:t0 s2:t1 s3=0 s3:t0 s3:t1 " +
		"d0:t2 d0:t3 d1:t2 d1:t3 k0=0 k0:t0 k0:t1 k0:t2 k0:t3 k1=0 k1:t0 k1:t1 k1:t2 k1:t3"
	expectAhead(t, 0, small, halt())
	expectAhead(t, 0, small, give(in1(t0, 0), 5), give(in1(t1, 1), 0), give(in1(t1, 1), max32), give(in1(t1, 2), 5))
	// What its own moves and what it gives change is not yet so ahead of it.
	expectAhead(t, 0, small, in(in1(t0, 0)).before(constant(1, 9)).after(constant(2, 9)))
	expectAhead(t, 1, small, jump(1), halt())
}

func widths() [][]bool {
	most := make([]bool, api.MaxTemps)
	mixed := []bool{true, false, false, true, false, true, true, false, false, false, true, true}
	wide := make([]bool, api.MaxTemps)
	for k := range wide {
		wide[k] = true
	}
	return [][]bool{{false}, {true}, {false, true}, {true, false}, {true, true, false}, most, mixed, wide}
}

func TestFirstInstructionOfEachTarget(t *testing.T) {
	for _, wide := range widths() {
		for singles := 4; singles <= api.MaxSingles; singles += 2 {
			for _, slots := range []int{0, 1, 2, api.MaxSlots} {
				for _, code := range [][]api.Ins{{{Op: api.XHalt}}, constants(wide, 0, max32, 7, 7)} {
					p := api.Prog{Wide: wide, Code: code}
					l := api.Placed{Slots: slots, Rows: make([]api.Row, len(code))}
					got := factsOf(t, p, target(singles), givenTo(l, p, single(singles-1)))
					if want := outset(p, singles, slots); text(got[0]) != want {
						t.Errorf("of %v, %d single registers and %d slots: %s, want %s", p, singles, slots, text(got[0]), want)
					}
				}
			}
		}
	}
}

// constants gives the last narrow temporary each number in turn, if there is one.
func constants(wide []bool, numbers ...uint32) []api.Ins {
	var code []api.Ins
	for k, w := range wide {
		if !w {
			code = nil
			for _, n := range numbers {
				code = append(code, api.Ins{Op: api.XConst, Dest: k, N: n})
			}
		}
	}
	return append(code, api.Ins{Op: api.XHalt})
}

// givenTo has what each XConst gives in one place.
func givenTo(l api.Placed, p api.Prog, to api.Place) api.Placed {
	for k, i := range p.Code {
		if i.Op == api.XConst {
			l.Rows[k].Dest = to
		}
	}
	return l
}

// TestNumbers: 0, and those of XConst, wherever that stands, each once; no others.
func TestNumbers(t *testing.T) {
	all := func(numbers ...uint32) []line {
		lines := []line{halt()}
		for _, n := range numbers {
			lines = append(lines, give(in1(t1, 3), n))
		}
		return lines
	}
	behind := func(want string, n uint32, lines []line) {
		t.Helper()
		lines = append(append(blank(), idle().before(constant(1, n), move(slot(1), single(1)))), lines...)
		expectAhead(t, len(blank())+1, want, lines...)
	}
	behind("s1=0 k1=0", 0, all())
	behind("s1=0 k1=0", 0, all(0))
	behind("s1=0 k1=0", 0, all(5, 6))
	behind("", 1, all())
	behind("", max32, all())
	behind("", 1, all(0, 2, max32))
	behind("s1=5 k1=5", 5, all(5))
	behind("s1=5 k1=5", 5, all(5, 5, 5))
	behind("s1=5 k1=5", 5, all(9, 5, 1, 5))
	behind("s1=4294967295 k1=4294967295", max32, all(0, max32))
	behind("", max32-1, all(0, max32))
	var most []uint32
	for n := range uint32(api.MaxCode - len(blank()) - 2) {
		most = append(most, max32-n)
	}
	for _, n := range most {
		behind(fmt.Sprintf("s1=%d k1=%d", n, n), n, all(most...))
	}
	behind("s1=0 k1=0", 0, all(most...))
	behind("", 7, all(most...))
}

// TestOrder has facts of each kind and of several numbers, given in another order than they are told in.
func TestOrder(t *testing.T) {
	lines := []line{
		give(in1(t1, 3), max32), give(in1(t0, 1), 10),
		idle().before(move(slot(1), single(3)), move(slot(0), single(1)), move(single(0), slot(0))),
		copied(in1(t1, 2), in1(t0, 1)),
		pair(in2(t3, 1), in1(t0, 1), in1(t0, 1)).after(move(slot(1), double(1))),
		copied(in2(t2, 1), in2(t3, 1)),
	}
	expectBehind(t, "t0=10 t1=10 s0=10 s0:t0 s0:t1 s1=10 s1:t0 s1:t1 d1:t2 d1:t3 k0=10 k0:t0 k0:t1 k1:t2 k1:t3", lines...)
	// By the place first, and by the number last.
	numbers := []line{give(in1(t0, 0), 100), give(in1(t1, 1), 20), give(in1(t0, 2), 3)}
	expectBehind(t, "t0=3 t1=20 s0=100 s1=20 s1:t1 s2=3 s2:t0", numbers...)
}
