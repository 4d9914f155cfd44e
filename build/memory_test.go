package build

import (
	"reflect"
	"slices"
	"testing"

	"loanbook/api"
)

// some are programs with slots and moves at some targets, and without at others.
func some() []api.Prog {
	return []api.Prog{
		prog(in(n0), onIf(n1, 0), out(n0)),
		prog(in(n0), in(n1), pair(w0, n0, n1), addWide(w1, w0, w0), addWide(w2, w1, w0), low(n2, w2), out(n2), out(n0)),
		prog(jump(0), jump(1)),
		crowded(addWide(crowdNarrow, crowdNarrow+1, crowdNarrow+2)),
		crowded(add(0, 1, 1)),
	}
}

// copied shares nothing with the places that are given.
func copied(l api.Placed) api.Placed {
	l.Rows = slices.Clone(l.Rows)
	for k, row := range l.Rows {
		l.Rows[k].Before = slices.Clone(row.Before)
		l.Rows[k].After = slices.Clone(row.After)
	}
	return l
}

func TestNothingIsChanged(t *testing.T) {
	for _, q := range append(some(), prog(jump(9)), api.Prog{}) {
		for _, singles := range append(targets(), -2, 5) {
			// More lies behind the lists' lengths: with it there would be more temporaries, and more of them near.
			wide := append(slices.Clone(q.Wide), false, true)
			code := append(slices.Clone(q.Code), out(n0), out(n1), api.Ins{Op: -1, N: 9})
			wasWide, wasCode := slices.Clone(wide), slices.Clone(code)
			first, firstErr := Build(api.Prog{Wide: wide[:len(q.Wide)], Code: code[:len(q.Code)]}, target(singles))
			if !slices.Equal(wide, wasWide) || !slices.Equal(code, wasCode) {
				t.Errorf("Build changed what was handed in, or what lies behind it: %v, %v", wide, code)
			}
			alone, aloneErr := Build(q, target(singles))
			if !reflect.DeepEqual(first, alone) || firstErr != aloneErr {
				t.Errorf("Build(%v, %d) = %v, %d, but %v, %d with more behind it", q, singles, alone, aloneErr, first, firstErr)
			}
		}
	}
}

// spoil writes over all of a list of moves, and over what lies behind its length.
func spoil(moves []api.Move) {
	moves = moves[:cap(moves)]
	for k := range moves {
		moves[k] = api.Move{To: api.Place{Kind: -1, N: -1}, Const: true, N: 9}
	}
}

// TestListsAreApart writes over each list of an answer, and expects no other one to change, nor another answer, nor what was handed in.
func TestListsAreApart(t *testing.T) {
	for _, p := range some() {
		for _, singles := range targets() {
			wide, code := slices.Clone(p.Wide), slices.Clone(p.Code)
			first, other := built(t, p, singles), built(t, p, singles)
			was := copied(first)
			want := copied(other)
			for k := range other.Rows {
				spoil(other.Rows[k].Before)
				want.Rows[k].Before = slices.Clone(other.Rows[k].Before)
				expectEqual(t, other, want)
				spoil(other.Rows[k].After)
				want.Rows[k].After = slices.Clone(other.Rows[k].After)
				expectEqual(t, other, want)
			}
			rows := other.Rows[:cap(other.Rows)]
			for k := range rows {
				rows[k] = api.Row{Dest: api.Place{Kind: -1}}
			}
			expectEqual(t, first, was)
			expectEqual(t, built(t, p, singles), was)
			if !slices.Equal(p.Wide, wide) || !slices.Equal(p.Code, code) {
				t.Errorf("what came out shares memory with what was handed in: %v", p)
			}
		}
	}
}

func expectEqual(t *testing.T, got, want api.Placed) {
	t.Helper()
	if !reflect.DeepEqual(got, want) {
		t.Fatalf("%v was changed: want %v", got, want)
	}
}

// TestNothingOfTheProgramIsKept writes over what was handed in.
func TestNothingOfTheProgramIsKept(t *testing.T) {
	for _, p := range some() {
		l := built(t, p, 4)
		was := copied(l)
		clear(p.Code)
		for k := range p.Wide {
			p.Wide[k] = !p.Wide[k]
		}
		expectEqual(t, l, was)
	}
}

// TestNothingIsKept: what was asked before has no say in what is answered.
func TestNothingIsKept(t *testing.T) {
	first := map[[2]int]api.Placed{}
	for range 10 {
		for k, p := range some() {
			for _, singles := range targets() {
				got := built(t, p, singles)
				if was, asked := first[[2]int{k, singles}]; asked {
					expectEqual(t, got, was)
				}
				first[[2]int{k, singles}] = got
			}
			expectErrForm(t, p, 3)
			expectErrForm(t, api.Prog{}, 4)
		}
	}
}
