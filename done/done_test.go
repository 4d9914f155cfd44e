package done

import (
	"math"
	"reflect"
	"slices"
	"testing"

	"loanbook/api"
	"loanbook/place"
)

// sound is a program, a target and places that may be, with each kind of moves, and with nothing at a limit.
func sound() (api.Prog, api.Target, api.Placed) {
	p, l := laid(
		in(1).before(constant(0, 5), move(slot(1), single(0))).after(move(slot(0), single(1))),
		do(api.XPair, double(1), single(0), single(1)).before(move(double(2), slot(0)), move(single(0), single(4))),
		do(api.XHigh, single(5), double(1), empty()).after(move(double(0), double(1)), move(slot(3), double(0))),
		onIf(5, 5).before(constant(2, 0)),
		jump(5).before(constant(5, 1)),
		out(5),
		halt().before(constant(1, 1)),
	)
	return p, target(6), l
}

func TestSound(t *testing.T) {
	p, on, l := sound()
	expectOf(t, p, on, l, []uint32{7}, 99, api.Shown{State: api.Halted, Out: []uint32{7}, Steps: 6})
	expectOf(t, p, on, l, nil, 99, api.Shown{State: api.Halted, Out: []uint32{1}, Steps: 7})
}

// spoils has, of each thing that F3 asks for, a change of what is sound by which it does not hold.
func spoils() map[string]func(p *api.Prog, on *api.Target, l *api.Placed) {
	type spoil = func(p *api.Prog, on *api.Target, l *api.Placed)
	all := map[string]spoil{
		"no program":     func(p *api.Prog, on *api.Target, l *api.Placed) { *p = api.Prog{} },
		"no temporaries": func(p *api.Prog, on *api.Target, l *api.Placed) { p.Wide = nil },
		"too many temporaries": func(p *api.Prog, on *api.Target, l *api.Placed) {
			p.Wide = append(p.Wide, make([]bool, api.MaxTemps-1)...)
		},
		"no code and no rows":    func(p *api.Prog, on *api.Target, l *api.Placed) { p.Code, l.Rows = nil, nil },
		"too much code":          func(p *api.Prog, on *api.Target, l *api.Placed) { long(p, l, api.MaxCode+1) },
		"no such instruction":    func(p *api.Prog, on *api.Target, l *api.Placed) { p.Code[6].Op = api.XOp },
		"a jump to nowhere":      func(p *api.Prog, on *api.Target, l *api.Placed) { p.Code[4].C = len(p.Code) },
		"a field that is not 0":  func(p *api.Prog, on *api.Target, l *api.Placed) { p.Code[5].N = 1 },
		"a temporary too wide":   func(p *api.Prog, on *api.Target, l *api.Placed) { p.Code[0].Dest = wide },
		"Dest of no temporary":   func(p *api.Prog, on *api.Target, l *api.Placed) { p.Code[0].Dest = -1 },
		"registers too few":      func(p *api.Prog, on *api.Target, l *api.Placed) { on.Singles = 4 },
		"an odd target":          func(p *api.Prog, on *api.Target, l *api.Placed) { on.Singles = 7 },
		"too great a target":     func(p *api.Prog, on *api.Target, l *api.Placed) { on.Singles = api.MaxSingles + 2 },
		"a target of none":       func(p *api.Prog, on *api.Target, l *api.Placed) { on.Singles = 0 },
		"a target below 0":       func(p *api.Prog, on *api.Target, l *api.Placed) { on.Singles = math.MinInt },
		"slots below 0":          func(p *api.Prog, on *api.Target, l *api.Placed) { l.Slots = -1 },
		"too many slots":         func(p *api.Prog, on *api.Target, l *api.Placed) { l.Slots = api.MaxSlots + 1 },
		"slots too few":          func(p *api.Prog, on *api.Target, l *api.Placed) { l.Slots = 3 },
		"no rows":                func(p *api.Prog, on *api.Target, l *api.Placed) { l.Rows = nil },
		"a row less":             func(p *api.Prog, on *api.Target, l *api.Placed) { l.Rows = l.Rows[:6] },
		"a row more":             func(p *api.Prog, on *api.Target, l *api.Placed) { l.Rows = append(l.Rows, api.Row{}) },
		"Dest is empty":          func(p *api.Prog, on *api.Target, l *api.Placed) { l.Rows[0].Dest = empty() },
		"Dest is a slot":         func(p *api.Prog, on *api.Target, l *api.Placed) { l.Rows[0].Dest = slot(0) },
		"Dest is too wide":       func(p *api.Prog, on *api.Target, l *api.Placed) { l.Rows[0].Dest = double(0) },
		"Dest is too narrow":     func(p *api.Prog, on *api.Target, l *api.Placed) { l.Rows[1].Dest = single(0) },
		"Dest is beyond":         func(p *api.Prog, on *api.Target, l *api.Placed) { l.Rows[0].Dest = single(6) },
		"Dest is below 0":        func(p *api.Prog, on *api.Target, l *api.Placed) { l.Rows[0].Dest = single(-1) },
		"Dest of what has none":  func(p *api.Prog, on *api.Target, l *api.Placed) { l.Rows[5].Dest = single(0) },
		"A is empty":             func(p *api.Prog, on *api.Target, l *api.Placed) { l.Rows[5].A = empty() },
		"A is a slot":            func(p *api.Prog, on *api.Target, l *api.Placed) { l.Rows[3].A = slot(0) },
		"A is too narrow":        func(p *api.Prog, on *api.Target, l *api.Placed) { l.Rows[2].A = single(1) },
		"A is beyond":            func(p *api.Prog, on *api.Target, l *api.Placed) { l.Rows[2].A = double(3) },
		"A of what has none":     func(p *api.Prog, on *api.Target, l *api.Placed) { l.Rows[4].A = single(0) },
		"B is empty":             func(p *api.Prog, on *api.Target, l *api.Placed) { l.Rows[1].B = empty() },
		"B is too wide":          func(p *api.Prog, on *api.Target, l *api.Placed) { l.Rows[1].B = double(0) },
		"B of what has none":     func(p *api.Prog, on *api.Target, l *api.Placed) { l.Rows[6].B = api.Place{N: 1} },
		"B of no kind":           func(p *api.Prog, on *api.Target, l *api.Placed) { l.Rows[1].B.Kind = math.MaxInt },
		"too many Before":        func(p *api.Prog, on *api.Target, l *api.Placed) { l.Rows[6].Before = constants(api.MaxMoves + 1) },
		"too many After":         func(p *api.Prog, on *api.Target, l *api.Placed) { l.Rows[5].After = constants(api.MaxMoves + 1) },
		"After of a jump":        func(p *api.Prog, on *api.Target, l *api.Placed) { l.Rows[4].After = constants(1) },
		"After of an if":         func(p *api.Prog, on *api.Target, l *api.Placed) { l.Rows[3].After = constants(1) },
		"After of a halt":        func(p *api.Prog, on *api.Target, l *api.Placed) { l.Rows[6].After = constants(1) },
		"a wrong move in Before": func(p *api.Prog, on *api.Target, l *api.Placed) { l.Rows[1].Before[1] = api.Move{} },
		"a wrong move in After":  func(p *api.Prog, on *api.Target, l *api.Placed) { l.Rows[2].After[1] = api.Move{} },
		"one that no way leads to": func(p *api.Prog, on *api.Target, l *api.Placed) {
			p.Code[0].Op, l.Rows[0], l.Rows[4].A = api.XHalt, api.Row{}, single(9)
		},
	}
	for name, m := range wrongMoves() {
		all["ahead: "+name] = func(p *api.Prog, on *api.Target, l *api.Placed) { l.Rows[6].Before[0] = m }
		all["behind: "+name] = func(p *api.Prog, on *api.Target, l *api.Placed) { l.Rows[0].After[0] = m }
	}
	return all
}

func wrongMoves() map[string]api.Move {
	return map[string]api.Move{
		"To is empty":               {From: single(0)},
		"To is beyond":              move(single(6), single(0)),
		"To is below 0":             move(double(-1), double(0)),
		"To is a slot beyond":       move(slot(api.MaxSlots), single(0)),
		"From is empty":             {To: single(0)},
		"From is beyond":            move(double(0), double(3)),
		"From is below 0":           move(single(0), single(math.MinInt)),
		"From is a slot beyond":     move(single(0), slot(api.MaxSlots)),
		"of no kind":                move(single(0), api.Place{Kind: 4}),
		"a slot to a slot":          move(slot(0), slot(1)),
		"a slot to itself":          move(slot(0), slot(0)),
		"a single to a double":      move(double(0), single(0)),
		"a double to a single":      move(single(0), double(0)),
		"N that is not 0":           {To: single(0), From: single(1), N: 1},
		"a constant to a double":    {To: double(0), Const: true, N: 1},
		"a constant to a slot":      {To: slot(0), Const: true, N: 1},
		"a constant to nowhere":     {Const: true, N: 1},
		"a constant beyond":         constant(6, 1),
		"a constant and a From":     {To: single(0), From: single(1), Const: true, N: 1},
		"a constant, From has an N": {To: single(0), From: api.Place{N: 1}, Const: true},
	}
}

func constants(count int) []api.Move { return slices.Repeat([]api.Move{constant(0, 1)}, count) }

// long lays halts behind the code until it has so many instructions.
func long(p *api.Prog, l *api.Placed, count int) {
	for len(p.Code) < count {
		p.Code = append(p.Code, api.Ins{Op: api.XHalt})
		l.Rows = append(l.Rows, api.Row{})
	}
}

func wrongSteps() []int {
	return []int{-1, -2, math.MinInt, api.MaxSteps + 1, api.MaxSteps + 2, 1 << 32, math.MaxInt}
}

func TestPlacesThatMayNotBe(t *testing.T) {
	for name, spoil := range spoils() {
		p, on, l := sound()
		spoil(&p, &on, &l)
		if place.May(p, on, l) {
			t.Errorf("%s: the places may be, so that this asks for nothing", name)
		}
		expectWrong(t, p, on, l, nil, 9, api.ErrForm)
		expectWrong(t, p, on, l, nil, 0, api.ErrForm)
		expectWrong(t, p, on, l, make([]uint32, api.MaxIns), api.MaxSteps, api.ErrForm)
	}
}

func TestTooManyIns(t *testing.T) {
	p, on, l := sound()
	for _, count := range []int{api.MaxIns + 1, api.MaxIns + 2, 1000} {
		for _, steps := range []int{0, 9, api.MaxSteps} {
			expectWrong(t, p, on, l, make([]uint32, count), steps, api.ErrSize)
		}
	}
}

func TestNoSuchSteps(t *testing.T) {
	p, on, l := sound()
	for _, steps := range wrongSteps() {
		expectWrong(t, p, on, l, nil, steps, api.ErrRange)
		expectWrong(t, p, on, l, []uint32{7}, steps, api.ErrRange)
		expectWrong(t, p, on, l, make([]uint32, api.MaxIns), steps, api.ErrRange)
	}
}

func TestSeveralThingsWrong(t *testing.T) {
	many := make([]uint32, api.MaxIns+1)
	for _, steps := range wrongSteps() {
		for _, spoil := range spoils() {
			p, on, l := sound()
			spoil(&p, &on, &l)
			expectWrong(t, p, on, l, many, 9, api.ErrForm)
			expectWrong(t, p, on, l, nil, steps, api.ErrForm)
			expectWrong(t, p, on, l, many, steps, api.ErrForm)
		}
		p, on, l := sound()
		expectWrong(t, p, on, l, many, steps, api.ErrSize)
	}
}

func TestAllWrong(t *testing.T) {
	far := api.Place{Kind: math.MinInt, N: math.MaxInt}
	moves := []api.Move{{To: far, From: far, Const: true, N: max32}}
	row := api.Row{Dest: far, A: far, B: far, Before: moves, After: moves}
	i := api.Ins{Op: math.MaxInt, Dest: math.MinInt, A: math.MaxInt, B: math.MinInt, C: math.MaxInt, N: max32}
	for _, p := range []api.Prog{{}, {Code: []api.Ins{i}}, {Wide: []bool{true}, Code: []api.Ins{i}}} {
		for _, n := range []int{math.MinInt, -1, 0, 8, math.MaxInt} {
			expectWrong(t, p, target(n), api.Placed{Slots: n, Rows: []api.Row{row}}, make([]uint32, 99), n, api.ErrForm)
			expectWrong(t, p, target(n), api.Placed{Slots: n}, nil, n, api.ErrForm)
		}
	}
}

func TestAtTheLimits(t *testing.T) {
	p, on, l := sound()
	ins := make([]uint32, api.MaxIns)
	ins[0] = 7
	for _, count := range []int{1, api.MaxIns - 1, api.MaxIns} {
		for _, steps := range []int{6, api.MaxSteps - 1, api.MaxSteps} {
			expectOf(t, p, on, l, ins[:count], steps, api.Shown{State: api.Halted, Out: []uint32{7}, Steps: 6})
		}
		expectOf(t, p, on, l, ins[:count], 0, api.Shown{State: api.Runs})
	}
	long(&p, &l, api.MaxCode)
	expectOf(t, p, on, l, ins, 9, api.Shown{State: api.Halted, Out: []uint32{7}, Steps: 6})
}

// TestMostOfAll: as much code, and as many moves, as there may be.
func TestMostOfAll(t *testing.T) {
	var lines []line
	var want []uint32
	for k := range uint32(api.MaxCode) {
		most := []api.Move{constant(15, k), move(slot(11), single(15)), move(double(7), slot(11)), move(double(0), double(7)), move(single(13), single(0)), move(single(12), single(13))}
		lines = append(lines, out(12).before(most...).after(most...))
		want = append(want, k)
	}
	expect(t, nil, api.MaxCode, api.Shown{State: api.Ended, Out: want, Steps: api.MaxCode}, lines...)
	expect(t, nil, api.MaxCode-1, api.Shown{State: api.Runs, Out: want[:api.MaxCode-1], Steps: api.MaxCode - 1}, lines...)
	lines[api.MaxCode-1] = jump(0).before(lines[0].Before...)
	whole := api.MaxSteps / api.MaxCode
	expect(t, nil, api.MaxSteps, api.Shown{State: api.Runs, Out: slices.Repeat(want[:api.MaxCode-1], whole), Steps: api.MaxSteps}, lines...)
}

// TestSteps: moves are none, so a run with them needs as many as one without.
func TestSteps(t *testing.T) {
	six := constants(api.MaxMoves)
	for _, moves := range [][]api.Move{nil, six[:1], six} {
		lines := []line{give(1, 3).before(moves...).after(moves...), out(1).before(moves...).after(moves...), jump(3).before(moves...), onIf(2, 0).before(moves...), halt().before(moves...)}
		expect(t, nil, 0, api.Shown{State: api.Runs}, lines...)
		expect(t, nil, 1, api.Shown{State: api.Runs, Steps: 1}, lines...)
		for steps := 2; steps <= 4; steps++ {
			expect(t, nil, steps, api.Shown{State: api.Runs, Out: []uint32{3}, Steps: steps}, lines...)
			// Without the halt, it is Ended with the fourth step, and needs no fifth.
			state := api.Runs
			if steps == 4 {
				state = api.Ended
			}
			expect(t, nil, steps, api.Shown{State: state, Out: []uint32{3}, Steps: steps}, lines[:4]...)
		}
		for _, steps := range []int{5, 6, api.MaxSteps} {
			expect(t, nil, steps, api.Shown{State: api.Halted, Out: []uint32{3}, Steps: 5}, lines...)
			expect(t, nil, steps, api.Shown{State: api.Ended, Out: []uint32{3}, Steps: 4}, lines[:4]...)
		}
	}
}

func TestStillRuns(t *testing.T) {
	for _, steps := range []int{0, 1, 2, 100, api.MaxSteps - 1, api.MaxSteps} {
		expect(t, nil, steps, api.Shown{State: api.Runs, Steps: steps}, jump(0))
		expect(t, nil, steps, api.Shown{State: api.Runs, Steps: steps}, onIf(9, 0).before(constant(9, 1)))
	}
}

// TestEndInTheVeryLastStep counts down so that the last step is step MaxSteps.
func TestEndInTheVeryLastStep(t *testing.T) {
	rounds := uint32(api.MaxSteps-4) / 2
	lines := []line{give(8, rounds), give(9, 1), jump(3), do(api.XOp+api.OpSub, single(8), single(8), single(9)), onIf(8, 3), halt()}
	expect(t, nil, api.MaxSteps, api.Shown{State: api.Halted, Steps: api.MaxSteps}, lines...)
	expect(t, nil, api.MaxSteps-1, api.Shown{State: api.Runs, Steps: api.MaxSteps - 1}, lines...)
	lines[5] = idle().after(constant(0, 1))
	expect(t, nil, api.MaxSteps, api.Shown{State: api.Ended, Steps: api.MaxSteps}, lines...)
	expect(t, nil, api.MaxSteps-1, api.Shown{State: api.Runs, Steps: api.MaxSteps - 1}, lines...)
}

func TestInsRunOut(t *testing.T) {
	lines := []line{in(3), out(3), in(3).before(constant(3, 9)), out(3), in(15), out(15).after(constant(15, 4)), in(15), out(15)}
	for count, want := range [][]uint32{{0, 0, 0, 0}, {6, 0, 0, 0}, {6, 7, 0, 0}, {6, 7, max32, 0}, {6, 7, max32, 8}, {6, 7, max32, 8}} {
		expect(t, []uint32{6, 7, max32, 8, 9}[:count], 9, api.Shown{State: api.Ended, Out: want, Steps: 8}, lines...)
	}
}

func TestAllInsAreTaken(t *testing.T) {
	ins := make([]uint32, api.MaxIns)
	for k := range ins {
		ins[k] = uint32(max32 - k)
	}
	want := append(slices.Clone(ins), 0, 0)
	expect(t, ins, 3*len(want), api.Shown{State: api.Runs, Out: want, Steps: 3 * len(want)}, in(5), out(5), jump(0))
}

// behind has what is sound in lists behind which lies more: wrong in them, or, of ins, taken if it were.
func behind() (api.Prog, api.Target, api.Placed, []uint32) {
	p, on, l := sound()
	wrong := api.Move{To: slot(99), From: slot(-1), N: 3}
	for k := range l.Rows {
		row := &l.Rows[k]
		row.Before = append(slices.Clone(row.Before), wrong)[:len(row.Before)]
		row.After = append(slices.Clone(row.After), wrong)[:len(row.After)]
	}
	p.Wide = append(p.Wide, true)[:len(p.Wide)]
	p.Code = append(p.Code, api.Ins{Op: -5, N: 9})[:len(p.Code)]
	l.Rows = append(l.Rows, api.Row{Dest: slot(9)})[:len(l.Rows)]
	return p, on, l, []uint32{7, 8, 9}[:1]
}

// whole stretches the lists over all that behind has laid.
func whole(p api.Prog, l api.Placed, ins []uint32) []any {
	all := []any{p.Wide[:len(p.Wide)+1], p.Code[:len(p.Code)+1], l.Rows[:len(l.Rows)+1], ins[:3]}
	for _, row := range l.Rows {
		all = append(all, row.Before[:len(row.Before)+1], row.After[:len(row.After)+1])
	}
	return all
}

func TestNothingIsChanged(t *testing.T) {
	for _, steps := range append(wrongSteps(), 0, 3, 99) {
		p, on, l, ins := behind()
		wasP, _, wasL, wasIns := behind()
		first, e := Run(p, on, l, ins, steps)
		again, f := Run(p, on, l, ins, steps)
		if e != f || !same(first, again) {
			t.Errorf("Run with %d steps = %v, %d, and then %v, %d", steps, first, e, again, f)
		}
		if !reflect.DeepEqual(whole(p, l, ins), whole(wasP, wasL, wasIns)) {
			t.Errorf("Run with %d steps changed what was handed in, or what lies behind it: %v, %v, %v", steps, p, l, ins)
		}
	}
	p, on, l, ins := behind()
	expectOf(t, p, on, l, ins, 99, api.Shown{State: api.Halted, Out: []uint32{7}, Steps: 6})
}

func TestNothingBehindListsIsRead(t *testing.T) {
	expect(t, []uint32{3, 4, 5}[:1], 9, api.Shown{State: api.Ended, Out: []uint32{3, 0}, Steps: 4}, in(0), out(0), in(0), out(0))
	expect(t, []uint32{3}[:0], 9, api.Shown{State: api.Ended, Out: []uint32{0}, Steps: 2}, in(0), out(0))
	moves := []api.Move{constant(0, 1), constant(0, 2)}
	expect(t, nil, 9, api.Shown{State: api.Ended, Out: []uint32{1, 1}, Steps: 2}, out(0).before(moves[:1]...).after(moves[:0]...), out(0))
	p, l := laid(out(0), jump(0))
	p.Code, l.Rows = p.Code[:1], l.Rows[:1]
	expectOf(t, p, target(4), l, nil, 9, api.Shown{State: api.Ended, Out: []uint32{0}, Steps: 1})
}

func TestWhatComesOutIsNew(t *testing.T) {
	p, l := laid(in(0).after(constant(1, 6)), out(0), jump(0))
	ins := []uint32{1, 2, 3, 4}
	first, _ := Run(p, target(4), l, ins, 12)
	second, _ := Run(p, target(4), l, ins, 12)
	for k := range ins {
		ins[k] = 9
	}
	p.Code[1], l.Rows[0] = api.Ins{Op: api.XHalt}, api.Row{}
	for _, s := range []api.Shown{first, second} {
		if !slices.Equal(s.Out, []uint32{1, 2, 3, 4}) {
			t.Errorf("what came out changed with what was handed in: %v", s)
		}
	}
	for k := range first.Out {
		first.Out[k] = 8
	}
	if !slices.Equal(second.Out, []uint32{1, 2, 3, 4}) || !slices.Equal(ins, []uint32{9, 9, 9, 9}) {
		t.Errorf("what came out shares memory: %v, %v", second, ins)
	}
}

// TestNothingIsKept: what one run left in registers and slots, another one does not have.
func TestNothingIsKept(t *testing.T) {
	c := distinct(api.MaxSingles)
	none := content{make([]uint32, api.MaxSingles), make([]uint64, api.MaxSlots)}
	for range 3 {
		expectContent(t, c, c, nil, nil)
		for _, tell := range []func() ([]line, []uint32){none.tellSingles, none.tellSlots} {
			lines, want := tell()
			expect(t, nil, 99, api.Shown{State: api.Ended, Out: want, Steps: len(lines)}, lines...)
		}
	}
}
