package check

import (
	"math"
	"reflect"
	"slices"
	"testing"

	"loanbook/api"
	"loanbook/place"
)

// sound is a program and places that may be and are taken, with each kind of moves, and with nothing at a limit.
func sound() (api.Prog, api.Target, api.Placed) {
	p, l := laid(
		in(in1(t0, 1)).before(constant(0, 5), move(slot(1), single(0))).after(move(slot(0), single(1))),
		give(in1(t1, 0), 5).before(move(double(1), double(0))),
		pair(in2(t2, 1), in1(t0, 3), in1(t1, 0)).before(move(single(3), slot(0))).after(move(slot(1), double(1))),
		do(api.XHigh, in1(t0, 1), in2(t2, 0), end{}).before(move(double(0), slot(1))),
		onIf(in1(t0, 1), 6).before(constant(2, 0)),
		jump(6).before(constant(3, 1)),
		out(in1(t0, 1)),
		halt().before(constant(1, 1)),
	)
	return p, target(singles), l
}

// refuses has, of each thing that F3 asks for, a change of what is sound by which it does not hold.
func refuses() map[string]func(p *api.Prog, on *api.Target, l *api.Placed) {
	return map[string]func(p *api.Prog, on *api.Target, l *api.Placed){
		"no program":     func(p *api.Prog, on *api.Target, l *api.Placed) { *p = api.Prog{} },
		"nothing at all": func(p *api.Prog, on *api.Target, l *api.Placed) { *p, *on, *l = api.Prog{}, api.Target{}, api.Placed{} },
		"no temporaries": func(p *api.Prog, on *api.Target, l *api.Placed) { p.Wide = nil },
		"too many temporaries": func(p *api.Prog, on *api.Target, l *api.Placed) {
			p.Wide = append(p.Wide, make([]bool, api.MaxTemps-3)...)
		},
		"no code and no rows":   func(p *api.Prog, on *api.Target, l *api.Placed) { p.Code, l.Rows = nil, nil },
		"too much code":         func(p *api.Prog, on *api.Target, l *api.Placed) { long(p, l, api.MaxCode+1) },
		"very much code":        func(p *api.Prog, on *api.Target, l *api.Placed) { long(p, l, 1000) },
		"no such instruction":   func(p *api.Prog, on *api.Target, l *api.Placed) { p.Code[7].Op = api.XOp },
		"a jump to nowhere":     func(p *api.Prog, on *api.Target, l *api.Placed) { p.Code[5].C = len(p.Code) },
		"a field that is not 0": func(p *api.Prog, on *api.Target, l *api.Placed) { p.Code[6].N = 1 },
		"a temporary too wide":  func(p *api.Prog, on *api.Target, l *api.Placed) { p.Code[0].Dest = t2 },
		"Dest of no temporary":  func(p *api.Prog, on *api.Target, l *api.Placed) { p.Code[0].Dest = math.MinInt },
		"A of no temporary":     func(p *api.Prog, on *api.Target, l *api.Placed) { p.Code[6].A = math.MaxInt },
		"registers too few":     func(p *api.Prog, on *api.Target, l *api.Placed) { on.Singles = 2 },
		"an odd target":         func(p *api.Prog, on *api.Target, l *api.Placed) { on.Singles = 5 },
		"too great a target":    func(p *api.Prog, on *api.Target, l *api.Placed) { on.Singles = api.MaxSingles + 2 },
		"the greatest target":   func(p *api.Prog, on *api.Target, l *api.Placed) { on.Singles = math.MaxInt - 1 },
		"a target of none":      func(p *api.Prog, on *api.Target, l *api.Placed) { on.Singles = 0 },
		"a target below 0":      func(p *api.Prog, on *api.Target, l *api.Placed) { on.Singles = math.MinInt },
		"slots below 0":         func(p *api.Prog, on *api.Target, l *api.Placed) { l.Slots = -1 },
		"too many slots":        func(p *api.Prog, on *api.Target, l *api.Placed) { l.Slots = api.MaxSlots + 1 },
		"most slots of all":     func(p *api.Prog, on *api.Target, l *api.Placed) { l.Slots = math.MaxInt },
		"slots too few":         func(p *api.Prog, on *api.Target, l *api.Placed) { l.Slots = 1 },
		"no rows":               func(p *api.Prog, on *api.Target, l *api.Placed) { l.Rows = nil },
		"a row less":            func(p *api.Prog, on *api.Target, l *api.Placed) { l.Rows = l.Rows[:7] },
		"a row more":            func(p *api.Prog, on *api.Target, l *api.Placed) { l.Rows = append(l.Rows, api.Row{}) },
		"Dest is empty":         func(p *api.Prog, on *api.Target, l *api.Placed) { l.Rows[0].Dest = api.Place{} },
		"Dest is a slot":        func(p *api.Prog, on *api.Target, l *api.Placed) { l.Rows[0].Dest = slot(0) },
		"Dest is too narrow":    func(p *api.Prog, on *api.Target, l *api.Placed) { l.Rows[2].Dest = single(0) },
		"Dest is beyond":        func(p *api.Prog, on *api.Target, l *api.Placed) { l.Rows[0].Dest = single(4) },
		"Dest of what has none": func(p *api.Prog, on *api.Target, l *api.Placed) { l.Rows[6].Dest = single(0) },
		"A is too wide":         func(p *api.Prog, on *api.Target, l *api.Placed) { l.Rows[6].A = double(0) },
		"A is below 0":          func(p *api.Prog, on *api.Target, l *api.Placed) { l.Rows[6].A = single(-1) },
		"A of what has none":    func(p *api.Prog, on *api.Target, l *api.Placed) { l.Rows[5].A = single(0) },
		"B is empty":            func(p *api.Prog, on *api.Target, l *api.Placed) { l.Rows[2].B = api.Place{} },
		"B of no kind":          func(p *api.Prog, on *api.Target, l *api.Placed) { l.Rows[2].B.Kind = math.MaxInt },
		"too many Before":       func(p *api.Prog, on *api.Target, l *api.Placed) { l.Rows[7].Before = many(api.MaxMoves + 1) },
		"too many After":        func(p *api.Prog, on *api.Target, l *api.Placed) { l.Rows[6].After = many(api.MaxMoves + 1) },
		"After of a jump":       func(p *api.Prog, on *api.Target, l *api.Placed) { l.Rows[5].After = many(1) },
		"After of an if":        func(p *api.Prog, on *api.Target, l *api.Placed) { l.Rows[4].After = many(1) },
		"After of a halt":       func(p *api.Prog, on *api.Target, l *api.Placed) { l.Rows[7].After = many(1) },
		"an empty move":         func(p *api.Prog, on *api.Target, l *api.Placed) { l.Rows[1].Before[0] = api.Move{} },
		"a slot to a slot":      func(p *api.Prog, on *api.Target, l *api.Placed) { l.Rows[0].After[0] = move(slot(0), slot(1)) },
		"a single to a double":  func(p *api.Prog, on *api.Target, l *api.Placed) { l.Rows[0].After[0] = move(double(0), single(1)) },
		"a move from beyond":    func(p *api.Prog, on *api.Target, l *api.Placed) { l.Rows[0].After[0] = move(slot(0), single(4)) },
		"a move to beyond":      func(p *api.Prog, on *api.Target, l *api.Placed) { l.Rows[7].Before[0] = move(slot(2), single(0)) },
		"a move with an N":      func(p *api.Prog, on *api.Target, l *api.Placed) { l.Rows[0].After[0].N = 1 },
		"a constant to a slot":  func(p *api.Prog, on *api.Target, l *api.Placed) { l.Rows[7].Before[0].To = slot(0) },
		"a constant and a From": func(p *api.Prog, on *api.Target, l *api.Placed) { l.Rows[7].Before[0].From = single(0) },
		"one to which no way leads": func(p *api.Prog, on *api.Target, l *api.Placed) {
			p.Code[0], l.Rows[0], l.Rows[6].A = api.Ins{Op: api.XHalt}, api.Row{}, single(9)
		},
	}
}

func many(count int) []api.Move { return slices.Repeat([]api.Move{constant(0, 1)}, count) }

// long lays halts behind the code until it has so many instructions.
func long(p *api.Prog, l *api.Placed, count int) {
	for len(p.Code) < count {
		p.Code = append(p.Code, api.Ins{Op: api.XHalt})
		l.Rows = append(l.Rows, api.Row{})
	}
}

func expectRefused(t *testing.T, why string, p api.Prog, on api.Target, l api.Placed) {
	t.Helper()
	if facts, e := Facts(p, on, l); e != api.ErrForm || len(facts) != 0 {
		t.Errorf("%s: Facts(%v, %v, %v) = %v, %d, want nothing, ErrForm", why, p, on, l, facts, e)
	}
	if Takes(p, on, l) {
		t.Errorf("%s: Takes(%v, %v, %v) = true, want false", why, p, on, l)
	}
}

func TestPlacesThatMayNotBe(t *testing.T) {
	p, on, l := sound()
	if _, e := Facts(p, on, l); e != api.OK || !Takes(p, on, l) {
		t.Errorf("what is sound is refused: %d, %v", e, Takes(p, on, l))
	}
	for name, spoil := range refuses() {
		p, on, l := sound()
		spoil(&p, &on, &l)
		if place.May(p, on, l) {
			t.Errorf("%s: the places may be, so that this asks for nothing", name)
		}
		expectRefused(t, name, p, on, l)
	}
}

func TestAllWrong(t *testing.T) {
	far := api.Place{Kind: math.MinInt, N: math.MaxInt}
	moves := []api.Move{{To: far, From: far, Const: true, N: max32}}
	row := api.Row{Dest: far, A: far, B: far, Before: moves, After: moves}
	i := api.Ins{Op: math.MaxInt, Dest: math.MinInt, A: math.MaxInt, B: math.MinInt, C: math.MaxInt, N: max32}
	for _, p := range []api.Prog{{}, {Code: []api.Ins{i}}, {Wide: []bool{true}, Code: []api.Ins{i}}} {
		for _, n := range []int{math.MinInt, -1, 0, 8, math.MaxInt} {
			expectRefused(t, "all", p, target(n), api.Placed{Slots: n, Rows: []api.Row{row}})
			expectRefused(t, "all", p, target(n), api.Placed{Slots: n})
		}
	}
}

// most has as much of everything as there may be, and a loop in which what is known goes away a little each round.
func most() (api.Prog, api.Placed) {
	p := api.Prog{Wide: make([]bool, api.MaxTemps)}
	l := api.Placed{Slots: api.MaxSlots}
	for n := api.MaxSingles - 1; n > 0; n-- {
		before := []api.Move{move(single(n), single(n-1))}
		for k := range api.MaxMoves - 1 {
			before = append(before, move(slot((n*k+k)%api.MaxSlots), single(n)))
		}
		p.Code = append(p.Code, api.Ins{Op: api.XOut})
		l.Rows = append(l.Rows, api.Row{A: single(n), Before: before, After: slices.Clone(before)})
	}
	for d := range api.MaxTemps {
		p.Code = append(p.Code, api.Ins{Op: api.XMove, Dest: d, A: (d + 1) % api.MaxTemps})
		l.Rows = append(l.Rows, api.Row{Dest: single(0), A: single(1)})
	}
	for len(p.Code) < api.MaxCode-1 {
		p.Code = append(p.Code, api.Ins{Op: api.XConst, Dest: 3, N: uint32(len(p.Code))})
		l.Rows = append(l.Rows, api.Row{Dest: single(0)})
	}
	p.Code = append(p.Code, api.Ins{Op: api.XIf, A: 0})
	l.Rows = append(l.Rows, api.Row{A: single(0)})
	return p, l
}

func TestMostOfAll(t *testing.T) {
	p, l := most()
	expectWords(t, p, api.MaxSingles, l)
}

// TestTheSameEachTime: the answer hangs on what is handed in alone, not on what was asked ahead of it.
func TestTheSameEachTime(t *testing.T) {
	r := source(3)
	for range 100 {
		p := r.program(2+r.below(6), 1+r.below(12))
		l := r.careful(p, 8)
		r.changed(p, 8, &l)
		first, takes := factsOf(t, p, target(8), l), Takes(p, target(8), l)
		for range 5 {
			q := r.program(3, 4)
			factsOf(t, q, target(4), r.careful(q, 4))
			again := factsOf(t, p, target(8), l)
			if !slices.EqualFunc(first, again, slices.Equal) || Takes(p, target(8), l) != takes {
				t.Fatalf("Facts(%v, 8, %v) = %v, and then %v", p, l, first, again)
			}
		}
	}
}

// behind has what is sound in lists behind which lies more, wrong in them, and a number that counted if it were read.
func behind() (api.Prog, api.Target, api.Placed) {
	p, on, l := sound()
	wrong := api.Move{To: slot(99), From: slot(-1), N: 3}
	for k := range l.Rows {
		row := &l.Rows[k]
		row.Before = append(slices.Clone(row.Before), wrong)[:len(row.Before)]
		row.After = append(slices.Clone(row.After), wrong)[:len(row.After)]
	}
	p.Wide = append(p.Wide, false)[:len(p.Wide)]
	p.Code = append(p.Code, api.Ins{Op: api.XConst, N: 1})[:len(p.Code)]
	l.Rows = append(l.Rows, api.Row{Dest: slot(9)})[:len(l.Rows)]
	return p, on, l
}

// whole stretches the lists over all that behind has laid.
func whole(p api.Prog, l api.Placed) []any {
	all := []any{p.Wide[:len(p.Wide)+1], p.Code[:len(p.Code)+1], l.Rows[:len(l.Rows)+1]}
	for _, row := range l.Rows {
		all = append(all, row.Before[:len(row.Before)+1], row.After[:len(row.After)+1])
	}
	return all
}

func TestNothingIsChanged(t *testing.T) {
	p, on, l := behind()
	wasP, _, wasL := behind()
	got := factsOf(t, p, on, l)
	if !Takes(p, on, l) {
		t.Errorf("Takes(%v, %v, %v) = false, want true: what lies behind the lists is not theirs", p, on, l)
	}
	if !reflect.DeepEqual(whole(p, l), whole(wasP, wasL)) {
		t.Errorf("what was handed in, or what lies behind it, changed: %v, %v", p, l)
	}
	soundP, _, soundL := sound()
	if want := factsOf(t, soundP, on, soundL); !slices.EqualFunc(got, want, slices.Equal) {
		t.Errorf("Facts = %v, want %v: what lies behind the lists is not theirs", got, want)
	}
}

// TestWhatComesOutIsNew: whatever is written into one list, up to what it could hold, changes no other one, nor what was handed in.
func TestWhatComesOutIsNew(t *testing.T) {
	p, on, l := behind()
	wasP, _, wasL := behind()
	first := factsOf(t, p, on, l)
	second := factsOf(t, p, on, l)
	want := factsOf(t, p, on, l)
	for at, list := range first {
		for k := range list[:cap(list)] {
			list[:cap(list)][k] = api.Fact{At: slot(99), Temp: true, T: 99, N: 99}
		}
		if !slices.EqualFunc(first[at+1:], want[at+1:], slices.Equal) {
			t.Errorf("the facts of instruction %d share memory with those behind it", at)
		}
		first[at] = nil
	}
	if !slices.EqualFunc(second, want, slices.Equal) || !reflect.DeepEqual(whole(p, l), whole(wasP, wasL)) {
		t.Errorf("what came out shares memory: %v, %v, %v", second, p, l)
	}
	for k := range p.Code {
		p.Code[k], l.Rows[k] = api.Ins{}, api.Row{}
	}
	if !slices.EqualFunc(second, want, slices.Equal) {
		t.Errorf("what came out changed with what was handed in: %v", second)
	}
}

// TestNoTwoListsShare: also where two instructions have the same facts.
func TestNoTwoListsShare(t *testing.T) {
	p, l := laid(idle(), idle(), onIf(in1(t0, 0), 3), idle(), halt(), idle())
	got := factsOf(t, p, target(singles), l)
	for at := range got[:5] {
		if len(got[at]) != len(got[0]) || len(got[at]) == 0 {
			t.Fatalf("Facts(%v, %v) = %v, want the same of the first five", p, l, got)
		}
		got[at][0].N = uint32(at) + 100
	}
	for at := range got[:5] {
		if got[at][0].N != uint32(at)+100 {
			t.Errorf("the facts of instruction %d are shared", at)
		}
	}
}
