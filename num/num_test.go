package num

import (
	"math"
	"math/big"
	"testing"

	"loanbook/api"
)

const (
	max32 = math.MaxUint32
	max64 = math.MaxUint64
)

var ops = []int{api.OpAdd, api.OpSub, api.OpMul, api.OpAnd, api.OpXor, api.OpLess}

// noOps holds, beside the neighbours of the ops, numbers that are an op once bits are cut off or the sign is dropped, and instructions that carry an op.
var noOps = []int{
	0, 7, 8, 9, 10, 100,
	-1, -2, -3, -4, -5, -6, -7,
	1 + 1<<8, 6 + 1<<8, 1 + 1<<16, 6 + 1<<16,
	api.XOp + api.OpAdd, api.XOp + api.OpLess, api.XWide + api.OpAdd, api.XWide + api.OpLess,
	math.MaxInt, math.MaxInt - 1, math.MinInt,
	math.MinInt + api.OpAdd, math.MinInt + api.OpSub, math.MinInt + api.OpMul,
	math.MinInt + api.OpAnd, math.MinInt + api.OpXor, math.MinInt + api.OpLess,
}

func TestNarrow(t *testing.T) {
	for _, c := range []struct {
		op         int
		a, b, want uint32
	}{
		{api.OpAdd, 2, 3, 5},
		{api.OpAdd, 0, 0, 0},
		{api.OpAdd, max32, 0, max32},
		{api.OpAdd, max32, 1, 0},
		{api.OpAdd, 1, max32, 0},
		{api.OpAdd, max32, max32, max32 - 1},
		{api.OpAdd, 1 << 31, 1 << 31, 0},
		{api.OpAdd, 1<<31 - 1, 1, 1 << 31},
		{api.OpSub, 7, 3, 4},
		{api.OpSub, 3, 7, max32 - 3},
		{api.OpSub, 0, 1, max32},
		{api.OpSub, 0, max32, 1},
		{api.OpSub, 5, 5, 0},
		{api.OpSub, max32, max32, 0},
		{api.OpSub, max32, 0, max32},
		{api.OpMul, 6, 7, 42},
		{api.OpMul, 0, max32, 0},
		{api.OpMul, max32, 0, 0},
		{api.OpMul, 1, max32, max32},
		{api.OpMul, max32, max32, 1},
		{api.OpMul, max32, 2, max32 - 1},
		{api.OpMul, 1 << 16, 1 << 16, 0},
		{api.OpMul, 1<<16 + 1, 1<<16 + 1, 1<<17 + 1},
		{api.OpMul, 1 << 31, 2, 0},
		{api.OpMul, 1 << 31, 3, 1 << 31},
		{api.OpAnd, 12, 10, 8},
		{api.OpAnd, max32, 0, 0},
		{api.OpAnd, max32, max32, max32},
		{api.OpAnd, 0xf0f0f0f0, 0xff00ff00, 0xf000f000},
		{api.OpXor, 12, 10, 6},
		{api.OpXor, max32, 0, max32},
		{api.OpXor, max32, max32, 0},
		{api.OpXor, 0xf0f0f0f0, 0xff00ff00, 0x0ff00ff0},
		{api.OpLess, 1, 2, 1},
		{api.OpLess, 2, 1, 0},
		{api.OpLess, 2, 2, 0},
		{api.OpLess, 0, 0, 0},
		{api.OpLess, 0, max32, 1},
		{api.OpLess, max32, 0, 0},
		{api.OpLess, max32, max32, 0},
		{api.OpLess, max32 - 1, max32, 1},
		{api.OpLess, 1<<31 - 1, 1 << 31, 1},
		{api.OpLess, 1 << 31, 1<<31 - 1, 0},
	} {
		if got := Narrow(c.op, c.a, c.b); got != c.want {
			t.Errorf("Narrow(%d, %d, %d) = %d, want %d", c.op, c.a, c.b, got, c.want)
		}
	}
}

func TestWide(t *testing.T) {
	for _, c := range []struct {
		op         int
		a, b, want uint64
	}{
		{api.OpAdd, 2, 3, 5},
		{api.OpAdd, 0, 0, 0},
		{api.OpAdd, max32, 1, 1 << 32},
		{api.OpAdd, max32, max32, 1<<33 - 2},
		{api.OpAdd, max64, 0, max64},
		{api.OpAdd, max64, 1, 0},
		{api.OpAdd, 1, max64, 0},
		{api.OpAdd, max64, max64, max64 - 1},
		{api.OpAdd, 1 << 63, 1 << 63, 0},
		{api.OpSub, 7, 3, 4},
		{api.OpSub, 3, 7, max64 - 3},
		{api.OpSub, 0, 1, max64},
		{api.OpSub, 0, max64, 1},
		{api.OpSub, 1 << 32, 1, max32},
		{api.OpSub, 5, 5, 0},
		{api.OpSub, max64, max64, 0},
		{api.OpSub, max64, 0, max64},
		{api.OpMul, 6, 7, 42},
		{api.OpMul, 0, max64, 0},
		{api.OpMul, max64, 0, 0},
		{api.OpMul, 1, max64, max64},
		{api.OpMul, max64, max64, 1},
		{api.OpMul, max64, 2, max64 - 1},
		{api.OpMul, 1 << 16, 1 << 16, 1 << 32},
		{api.OpMul, 1 << 32, 1 << 32, 0},
		{api.OpMul, 1<<32 + 1, 1<<32 + 1, 1<<33 + 1},
		{api.OpMul, max32, max32, 0xfffffffe00000001},
		{api.OpMul, 1 << 63, 3, 1 << 63},
		{api.OpAnd, 12, 10, 8},
		{api.OpAnd, max64, 0, 0},
		{api.OpAnd, max64, max64, max64},
		{api.OpAnd, max64, max32, max32},
		{api.OpAnd, 0xf0f0f0f0f0f0f0f0, 0xff00ff00ff00ff00, 0xf000f000f000f000},
		{api.OpXor, 12, 10, 6},
		{api.OpXor, max64, 0, max64},
		{api.OpXor, max64, max64, 0},
		{api.OpXor, max64, max32, max32 << 32},
		{api.OpXor, 0xf0f0f0f0f0f0f0f0, 0xff00ff00ff00ff00, 0x0ff00ff00ff00ff0},
		{api.OpLess, 1, 2, 1},
		{api.OpLess, 2, 1, 0},
		{api.OpLess, 2, 2, 0},
		{api.OpLess, 0, 0, 0},
		{api.OpLess, 0, max64, 1},
		{api.OpLess, max64, 0, 0},
		{api.OpLess, max64, max64, 0},
		{api.OpLess, max64 - 1, max64, 1},
		{api.OpLess, max32, 1 << 32, 1},
		{api.OpLess, 1 << 32, max32, 0},
		{api.OpLess, 1<<63 - 1, 1 << 63, 1},
		{api.OpLess, 1 << 63, 1<<63 - 1, 0},
	} {
		if got := Wide(c.op, c.a, c.b); got != c.want {
			t.Errorf("Wide(%d, %d, %d) = %d, want %d", c.op, c.a, c.b, got, c.want)
		}
	}
}

func TestOtherOpsAreZero(t *testing.T) {
	for _, op := range noOps {
		for _, a := range edges() {
			for _, b := range edges() {
				if got := Narrow(op, uint32(a), uint32(b)); got != 0 {
					t.Errorf("Narrow(%d, %d, %d) = %d, want 0", op, uint32(a), uint32(b), got)
				}
				if got := Wide(op, a, b); got != 0 {
					t.Errorf("Wide(%d, %d, %d) = %d, want 0", op, a, b, got)
				}
			}
		}
	}
}

// TestAgainstUnbounded holds both widths against numbers that have no width, cut afterwards.
func TestAgainstUnbounded(t *testing.T) {
	for _, op := range ops {
		for _, a := range edges() {
			for _, b := range edges() {
				if got, want := Wide(op, a, b), unbounded(op, a, b, 64); got != want {
					t.Errorf("Wide(%d, %d, %d) = %d, want %d", op, a, b, got, want)
				}
				c, d := uint32(a), uint32(b)
				if got, want := uint64(Narrow(op, c, d)), unbounded(op, uint64(c), uint64(d), 32); got != want {
					t.Errorf("Narrow(%d, %d, %d) = %d, want %d", op, c, d, got, want)
				}
			}
		}
	}
}

// edges: each power of two with its neighbours, and a few numbers with no pattern to them.
func edges() []uint64 {
	list := []uint64{0, 2, 3, 10, 1000003, 0xdeadbeef, 0x0123456789abcdef, 0xfedcba9876543210, max32, max64}
	for _, k := range []uint{0, 8, 15, 16, 31, 32, 33, 48, 62, 63} {
		p := uint64(1) << k
		list = append(list, p-1, p, p+1, -p)
	}
	return list
}

func unbounded(op int, a, b uint64, width uint) uint64 {
	x, y := new(big.Int).SetUint64(a), new(big.Int).SetUint64(b)
	z := new(big.Int)
	switch op {
	case api.OpAdd:
		z.Add(x, y)
	case api.OpSub:
		z.Sub(x, y)
	case api.OpMul:
		z.Mul(x, y)
	case api.OpAnd:
		z.And(x, y)
	case api.OpXor:
		z.Xor(x, y)
	case api.OpLess:
		if x.Cmp(y) < 0 {
			z.SetInt64(1)
		}
	}
	// Mod is Euclidean: a difference below 0 comes out above it.
	return z.Mod(z, new(big.Int).Lsh(big.NewInt(1), width)).Uint64()
}
