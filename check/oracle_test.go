package check

import (
	"cmp"
	"maps"
	"slices"
	"testing"

	"loanbook/api"
)

// truths are facts as H1 has them, one by one.
type truths map[api.Fact]bool

// words reads H1 to H5 apart from the program.
type words struct {
	p       api.Prog
	singles int
	l       api.Placed
}

func (w words) numbers() map[uint32]bool {
	all := map[uint32]bool{0: true}
	for _, i := range w.p.Code {
		if i.Op == api.XConst {
			all[i.N] = true
		}
	}
	return all
}

// may is H1: whether there may be such a fact.
func (w words) may(f api.Fact) bool {
	number := w.numbers()[f.N]
	if f.At == (api.Place{}) {
		return f.Temp && !w.p.Wide[f.T] && number
	}
	if !f.Temp {
		return f.T == 0 && f.At.Kind != api.KDouble && number
	}
	switch f.At.Kind {
	case api.KSingle:
		return f.N == 0 && !w.p.Wide[f.T]
	case api.KDouble:
		return f.N == 0 && w.p.Wide[f.T]
	}
	return f.N == 0
}

// all has all facts that there may be.
func (w words) all() truths {
	places := []api.Place{{}}
	for n := range w.singles {
		places = append(places, single(n))
	}
	for n := range w.singles / 2 {
		places = append(places, double(n))
	}
	for n := range w.l.Slots {
		places = append(places, slot(n))
	}
	found := truths{}
	for _, at := range places {
		for n := range w.numbers() {
			for t := range w.p.Wide {
				for _, f := range []api.Fact{{At: at, N: n}, {At: at, Temp: true, T: t}, {At: at, Temp: true, T: t, N: n}} {
					if w.may(f) {
						found[f] = true
					}
				}
			}
		}
	}
	return found
}

func (w words) beginning() truths {
	return w.all().only(func(f api.Fact) bool { return f.N == 0 })
}

func (s truths) only(is func(api.Fact) bool) truths {
	left := truths{}
	for f := range s {
		if is(f) {
			left[f] = true
		}
	}
	return left
}

// overlaps is F2.
func overlaps(a, b api.Place) bool {
	halves := func(l api.Place) []api.Place {
		if l.Kind == api.KDouble {
			return []api.Place{single(2 * l.N), single(2*l.N + 1)}
		}
		return nil
	}
	return a == b || slices.Contains(halves(a), b) || slices.Contains(halves(b), a)
}

// moved is H2.
func (w words) moved(ahead truths, m api.Move) truths {
	behind := ahead.only(func(f api.Fact) bool { return !overlaps(f.At, m.To) })
	add := func(f api.Fact) {
		if f.At = m.To; w.may(f) {
			behind[f] = true
		}
	}
	if m.Const {
		add(api.Fact{N: m.N})
	}
	for f := range ahead {
		switch {
		case m.Const && f == api.Fact{Temp: true, T: f.T, N: m.N}:
			add(api.Fact{Temp: true, T: f.T})
		case !m.Const && f.At == m.From:
			add(f)
		}
	}
	return behind
}

// given is H3.
func (w words) given(ahead truths, i api.Ins, to api.Place) truths {
	d := i.Dest
	has := func(at api.Place, temp int) api.Fact { return api.Fact{At: at, Temp: true, T: temp} }
	stay := ahead.only(func(f api.Fact) bool { return !(f.Temp && f.T == d) && !overlaps(f.At, to) })
	behind := maps.Clone(stay)
	behind[has(to, d)] = true
	switch i.Op {
	case api.XConst:
		behind[api.Fact{Temp: true, T: d, N: i.N}] = true
		behind[api.Fact{At: to, N: i.N}] = true
		for f := range stay {
			if !f.Temp && f.N == i.N {
				behind[has(f.At, d)] = true
			}
		}
	case api.XMove:
		if i.A != d {
			behind[has(to, i.A)] = true
		}
		for f := range ahead {
			switch {
			case !f.Temp || f.T != i.A:
			case f.At == api.Place{}:
				behind[api.Fact{Temp: true, T: d, N: f.N}] = true
				behind[api.Fact{At: to, N: f.N}] = true
			case !overlaps(f.At, to):
				behind[has(f.At, d)] = true
			}
		}
	}
	return behind
}

func (w words) movedAll(f truths, moves []api.Move) truths {
	for _, m := range moves {
		f = w.moved(f, m)
	}
	return f
}

func (w words) behind(at int, f truths) truths {
	i, row := w.p.Code[at], w.l.Rows[at]
	f = w.movedAll(f, row.Before)
	switch i.Op {
	case api.XOut, api.XJump, api.XIf, api.XHalt:
	default:
		f = w.given(f, i, row.Dest)
	}
	return w.movedAll(f, row.After)
}

func (w words) leads(at int) []int {
	var to []int
	switch i := w.p.Code[at]; i.Op {
	case api.XHalt:
	case api.XJump:
		to = []int{i.C}
	case api.XIf:
		to = []int{i.C, at + 1}
	default:
		to = []int{at + 1}
	}
	return slices.DeleteFunc(to, func(k int) bool { return k >= len(w.p.Code) })
}

// reached has the instructions to which a way leads from the first one.
func (w words) reached() []bool {
	is := make([]bool, len(w.p.Code))
	is[0] = true
	ways := []int{0}
	for len(ways) > 0 {
		at := ways[0]
		ways = ways[1:]
		for _, to := range w.leads(at) {
			if !is[to] {
				is[to] = true
				ways = append(ways, to)
			}
		}
	}
	return is
}

// ahead is H4: beginning with all facts everywhere, those that may not stay are taken away until all may.
func (w words) ahead() []truths {
	sets := make([]truths, len(w.p.Code))
	reached := w.reached()
	for at := range sets {
		if sets[at] = (truths{}); reached[at] {
			sets[at] = w.all()
		}
	}
	for again := true; again; {
		again = false
		cut := func(to int, by truths) {
			left := sets[to].only(func(f api.Fact) bool { return by[f] })
			again = again || len(left) < len(sets[to])
			sets[to] = left
		}
		cut(0, w.beginning())
		for at := range sets {
			if !reached[at] {
				continue
			}
			behind := w.behind(at, sets[at])
			for _, to := range w.leads(at) {
				cut(to, behind)
			}
		}
	}
	return sets
}

// takes is H5, of places that may be.
func (w words) takes(ahead []truths) bool {
	reached := w.reached()
	for at, i := range w.p.Code {
		if !reached[at] {
			continue
		}
		row := w.l.Rows[at]
		f := w.movedAll(ahead[at], row.Before)
		// A place that is empty is that of nothing that is taken.
		if row.A != (api.Place{}) && !f[api.Fact{At: row.A, Temp: true, T: i.A}] {
			return false
		}
		if row.B != (api.Place{}) && !f[api.Fact{At: row.B, Temp: true, T: i.B}] {
			return false
		}
	}
	return true
}

func (s truths) told() []api.Fact {
	return slices.SortedFunc(maps.Keys(s), func(a, b api.Fact) int {
		return cmp.Or(cmp.Compare(a.At.Kind, b.At.Kind), cmp.Compare(a.At.N, b.At.N), notFirst(a.Temp, b.Temp), cmp.Compare(a.T, b.T), cmp.Compare(a.N, b.N))
	})
}

// notFirst has false ahead of true.
func notFirst(a, b bool) int {
	switch {
	case a == b:
		return 0
	case a:
		return 1
	}
	return -1
}

// expectWords asks Facts and Takes for what the words say, and tells what Takes has said, and how many facts there are.
func expectWords(t *testing.T, p api.Prog, singles int, l api.Placed) (takes bool, count int) {
	t.Helper()
	w := words{p, singles, l}
	want := w.ahead()
	got := factsOf(t, p, target(singles), l)
	for at := range got {
		if told := want[at].told(); !slices.Equal(got[at], told) {
			t.Fatalf("Facts(%v, %d, %v)[%d] =\n%s, want\n%s", p, singles, l, at, text(got[at]), text(told))
		}
		count += len(got[at])
	}
	takes = w.takes(want)
	if got := Takes(p, target(singles), l); got != takes {
		t.Fatalf("Takes(%v, %d, %v) = %v, want %v", p, singles, l, got, takes)
	}
	return takes, count
}

// TestByTheWords has places that were drawn blindly, and such as were made with care and then changed a little.
func TestByTheWords(t *testing.T) {
	r := source(8)
	taken, refused, facts := 0, 0, 0
	for k := range 1500 {
		p := r.program(2+r.below(3), 1+r.below(9))
		singles := 4 + 2*r.below(3)
		l := r.placed(p, singles, r.below(4))
		if k%3 > 0 {
			l = r.careful(p, singles)
			r.changed(p, singles, &l)
		}
		takes, count := expectWords(t, p, singles, l)
		if facts += count; takes {
			taken++
		} else {
			refused++
		}
	}
	if taken < 300 || refused < 300 || facts < 100000 {
		t.Errorf("what was tried is too much alike: %d taken, %d refused, %d facts", taken, refused, facts)
	}
}

// TestByTheWordsAtTheLimits has as many temporaries, instructions, registers and slots as there may be.
func TestByTheWordsAtTheLimits(t *testing.T) {
	r := source(5)
	for range 4 {
		p := r.program(api.MaxTemps, api.MaxCode)
		expectWords(t, p, api.MaxSingles, r.placed(p, api.MaxSingles, api.MaxSlots))
		l := r.careful(p, api.MaxSingles)
		expectWords(t, p, api.MaxSingles, l)
		r.changed(p, api.MaxSingles, &l)
		expectWords(t, p, api.MaxSingles, l)
	}
}

// walked has, of each instruction, the facts that are so on each way to it from the first one; it gives up where there are too many.
func (w words) walked(most int) ([]truths, bool) {
	type point struct {
		at int
		f  truths
	}
	seen := map[int]map[string]bool{}
	sets := make([]truths, len(w.p.Code))
	ways := []point{{0, w.beginning()}}
	for len(ways) > 0 {
		here := ways[0]
		ways = ways[1:]
		key := text(here.f.told())
		if seen[here.at] == nil {
			seen[here.at] = map[string]bool{}
			sets[here.at] = here.f
		}
		if seen[here.at][key] {
			continue
		}
		seen[here.at][key] = true
		if most--; most < 0 {
			return nil, false
		}
		sets[here.at] = sets[here.at].only(func(f api.Fact) bool { return here.f[f] })
		for _, to := range w.leads(here.at) {
			ways = append(ways, point{to, w.behind(here.at, here.f)})
		}
	}
	return sets, true
}

// TestByEachWay: as what is so behind an instruction hangs on one fact at a time, the greatest sets are what is so on each way.
func TestByEachWay(t *testing.T) {
	r := source(6)
	walked := 0
	for range 600 {
		p := r.program(2+r.below(2), 1+r.below(7))
		l := r.careful(p, 4)
		r.changed(p, 4, &l)
		want, few := (words{p, 4, l}).walked(300)
		if !few {
			continue
		}
		walked++
		for at, got := range factsOf(t, p, target(4), l) {
			if text(got) != text(want[at].told()) {
				t.Fatalf("Facts(%v, 4, %v)[%d] =\n%s, want\n%s", p, l, at, text(got), text(want[at].told()))
			}
		}
	}
	if walked < 500 {
		t.Errorf("too few programs had few ways: %d", walked)
	}
}
