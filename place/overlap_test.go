package place

import (
	"math"
	"math/big"
	"testing"

	"loanbook/api"
)

func single(n int) api.Place { return api.Place{Kind: api.KSingle, N: n} }
func double(n int) api.Place { return api.Place{Kind: api.KDouble, N: n} }
func slot(n int) api.Place   { return api.Place{Kind: api.KSlot, N: n} }

// expectOverlap asks either way round.
func expectOverlap(t *testing.T, a, b api.Place, want bool) {
	t.Helper()
	if Overlap(a, b) != want || Overlap(b, a) != want {
		t.Errorf("Overlap(%v, %v) = %v, and the other way round %v, want %v", a, b, Overlap(a, b), Overlap(b, a), want)
	}
}

// farNumbers are negative and very great ones, and those whose double, or half, is one that an int can just hold, or can't.
func farNumbers() []int {
	var list []int
	for _, n := range []int{math.MinInt, math.MinInt / 2, math.MinInt / 4, 0, math.MaxInt / 4, math.MaxInt / 2, math.MaxInt} {
		for d := -3; d <= 3; d++ {
			if d < 0 && n < math.MinInt-d || d > 0 && n > math.MaxInt-d {
				continue
			}
			list = append(list, n+d)
		}
	}
	return list
}

// noKinds are numbers that no kind of places has; the last ones have a kind's lowest bits.
func noKinds() []int {
	return []int{api.KNone, -1, -2, -3, 4, 5, 6, math.MinInt, math.MaxInt, api.KSingle + 1<<8, api.KDouble + 1<<16, api.KSlot + 1<<32}
}

func TestOverlapOfTheSame(t *testing.T) {
	for _, n := range farNumbers() {
		expectOverlap(t, single(n), single(n), true)
		expectOverlap(t, double(n), double(n), true)
		expectOverlap(t, slot(n), slot(n), true)
	}
}

func TestOverlapOfOneKind(t *testing.T) {
	for _, one := range farNumbers() {
		for _, other := range farNumbers() {
			expectOverlap(t, single(one), single(other), one == other)
			expectOverlap(t, double(one), double(other), one == other)
			expectOverlap(t, slot(one), slot(other), one == other)
		}
	}
}

func TestDoubleAndItsSingles(t *testing.T) {
	for _, n := range []int{0, 1, 2, 3, 7, 8, 1000, 1 << 20, -1, -2, -3, -8, -1000, math.MaxInt / 2, math.MinInt/2 + 1} {
		expectOverlap(t, double(n), single(2*n-1), false)
		expectOverlap(t, double(n), single(2*n), true)
		expectOverlap(t, double(n), single(2*n+1), true)
		if n != math.MaxInt/2 {
			expectOverlap(t, double(n), single(2*n+2), false)
		}
		// The number of a double one is not that of a single one.
		expectOverlap(t, double(n), single(n), n == 0 || n == -1)
	}
}

// TestDoubleBelowNothing: a division that rounds towards 0 would give these to another one.
func TestDoubleBelowNothing(t *testing.T) {
	expectOverlap(t, double(0), single(-1), false)
	expectOverlap(t, double(-1), single(-1), true)
	expectOverlap(t, double(-1), single(-2), true)
	expectOverlap(t, double(-1), single(-3), false)
	expectOverlap(t, double(-1), single(0), false)
	expectOverlap(t, double(-2), single(-3), true)
}

// TestDoubleBeyondSingles: twice these is beyond what an int can hold, so that no single one can have that number.
func TestDoubleBeyondSingles(t *testing.T) {
	for _, n := range []int{math.MaxInt, math.MaxInt - 1, math.MaxInt/2 + 1, math.MaxInt/2 + 2, math.MinInt, math.MinInt + 1, math.MinInt/2 - 1} {
		for _, s := range farNumbers() {
			expectOverlap(t, double(n), single(s), false)
		}
		expectOverlap(t, double(n), single(2*n), false)
		expectOverlap(t, double(n), single(2*n+1), false)
	}
	expectOverlap(t, double(math.MaxInt/2), single(math.MaxInt), true)
	expectOverlap(t, double(math.MaxInt/2), single(math.MaxInt-1), true)
	expectOverlap(t, double(math.MinInt/2), single(math.MinInt), true)
	expectOverlap(t, double(math.MinInt/2), single(math.MinInt+1), true)
}

func TestSlotsAndRegisters(t *testing.T) {
	for _, n := range farNumbers() {
		for _, s := range farNumbers() {
			expectOverlap(t, slot(s), single(n), false)
			expectOverlap(t, slot(s), double(n), false)
		}
	}
}

// TestOverlapOfNoKind: places of no kind are the same, or have nothing in common.
func TestOverlapOfNoKind(t *testing.T) {
	for _, kind := range noKinds() {
		for _, n := range []int{-2, -1, 0, 1, 2, math.MinInt, math.MaxInt} {
			l := api.Place{Kind: kind, N: n}
			expectOverlap(t, l, l, true)
			expectOverlap(t, l, api.Place{Kind: kind, N: 3}, false)
			for _, s := range []int{n, 2 * n, 2*n + 1, n >> 1} {
				expectOverlap(t, l, single(s), false)
				expectOverlap(t, l, double(s), false)
				expectOverlap(t, l, slot(s), false)
			}
			for _, other := range noKinds() {
				expectOverlap(t, l, api.Place{Kind: other, N: n}, other == kind)
			}
		}
	}
}

// overlapByWords is F2, word for word, with numbers that have no width.
func overlapByWords(a, b api.Place) bool {
	if a.Kind == b.Kind && a.N == b.N {
		return true
	}
	for _, both := range [][2]api.Place{{a, b}, {b, a}} {
		if both[0].Kind != api.KDouble || both[1].Kind != api.KSingle {
			continue
		}
		lower := new(big.Int).Mul(big.NewInt(2), big.NewInt(int64(both[0].N)))
		upper := new(big.Int).Add(lower, big.NewInt(1))
		has := big.NewInt(int64(both[1].N))
		if has.Cmp(lower) == 0 || has.Cmp(upper) == 0 {
			return true
		}
	}
	return false
}

func TestOverlapAgainstWords(t *testing.T) {
	numbers := farNumbers()
	for n := -40; n <= 40; n++ {
		numbers = append(numbers, n)
	}
	var all []api.Place
	for kind := -1; kind <= 4; kind++ {
		for _, n := range numbers {
			all = append(all, api.Place{Kind: kind, N: n})
		}
	}
	for _, a := range all {
		for _, b := range all {
			if got, want := Overlap(a, b), overlapByWords(a, b); got != want {
				t.Errorf("Overlap(%v, %v) = %v, want %v", a, b, got, want)
			}
		}
	}
}
