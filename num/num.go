// Package num reckons with the numbers of temporaries, narrow (32 bits) and wide (64 bits).
package num

import "loanbook/api"

// Narrow is a op b of 32 bits, and 0 for an op that is none of api's.
func Narrow(op int, a, b uint32) uint32 { return reckon(op, a, b) }

// Wide is a op b of 64 bits, and 0 for an op that is none of api's.
func Wide(op int, a, b uint64) uint64 { return reckon(op, a, b) }

// reckon leans on the wrap-round of unsigned numbers: what is beyond the width of T is gone by itself.
func reckon[T uint32 | uint64](op int, a, b T) T {
	switch op {
	case api.OpAdd:
		return a + b
	case api.OpSub:
		return a - b
	case api.OpMul:
		return a * b
	case api.OpAnd:
		return a & b
	case api.OpXor:
		return a ^ b
	case api.OpLess:
		if a < b {
			return 1
		}
	}
	return 0
}
