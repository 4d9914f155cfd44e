package place

import (
	"math"
	"slices"
	"testing"

	"loanbook/api"
)

func TestTargetMay(t *testing.T) {
	for n := -20; n <= api.MaxSingles+20; n++ {
		want := n%2 == 0 && n >= 4 && n <= api.MaxSingles
		if got := TargetMay(api.Target{Singles: n}); got != want {
			t.Errorf("TargetMay(%d) = %v, want %v", n, got, want)
		}
	}
	for _, n := range []int{math.MinInt, math.MinInt + 8, math.MaxInt, math.MaxInt - 1, 1<<32 + 4} {
		if TargetMay(api.Target{Singles: n}) {
			t.Errorf("TargetMay(%d) = true, want false", n)
		}
	}
}

func TestAll(t *testing.T) {
	want := []api.Place{single(0), single(1), single(2), single(3), double(0), double(1), slot(0), slot(1), slot(2)}
	if got := All(api.Target{Singles: 4}, 3); !slices.Equal(got, want) {
		t.Errorf("All(4, 3) = %v, want %v", got, want)
	}
	if got := All(api.Target{Singles: 4}, 0); !slices.Equal(got, want[:6]) {
		t.Errorf("All(4, 0) = %v, want %v", got, want[:6])
	}
}

// TestAllOfEachTarget has targets, and numbers of slots, that may not be, too.
func TestAllOfEachTarget(t *testing.T) {
	for n := -1; n <= api.MaxSingles+3; n++ {
		for count := -1; count <= api.MaxSlots+1; count++ {
			var want []api.Place
			if n >= 4 && n <= api.MaxSingles && n%2 == 0 && count >= 0 && count <= api.MaxSlots {
				for k := range n {
					want = append(want, single(k))
				}
				for k := range n / 2 {
					want = append(want, double(k))
				}
				for k := range count {
					want = append(want, slot(k))
				}
			}
			if got := All(api.Target{Singles: n}, count); !slices.Equal(got, want) {
				t.Errorf("All(%d, %d) = %v, want %v", n, count, got, want)
			}
		}
	}
}

func TestAllOfFarNumbers(t *testing.T) {
	for _, n := range []int{math.MinInt, math.MaxInt, math.MaxInt - 1, 1 << 32} {
		if got := All(api.Target{Singles: n}, 3); len(got) != 0 {
			t.Errorf("All(%d, 3) has %d places, want none", n, len(got))
		}
		if got := All(api.Target{Singles: 8}, n); len(got) != 0 {
			t.Errorf("All(8, %d) has %d places, want none", n, len(got))
		}
	}
}
