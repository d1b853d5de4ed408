// Package sat is layer 1, saturating counts: see shared/doc/01-sat.md.
package sat

import (
	"math/bits"

	"commonage/api"
)

// Clip returns the count of n.
func Clip(n int64) int64 { return Add(n, 0) }

// Add returns the count of a + b.
func Add(a, b int64) int64 { return signed(a, b, sum) }

// Sub returns the count of a - b.
func Sub(a, b int64) int64 {
	// The sign is reversed, not b: -b does not exist for the least int64.
	return signed(a, b, func(x, y uint64, xNeg, yNeg bool) uint64 { return sum(x, y, xNeg, !yNeg) })
}

// Mul returns the count of a * b.
func Mul(a, b int64) int64 { return Scale(a, b, 1) }

// Scale returns the count of a * b / c, rounded down; 0 if c is below 1.
func Scale(a, b, c int64) int64 {
	if c < 1 {
		return 0
	}
	return signed(a, b, func(x, y uint64, xNeg, yNeg bool) uint64 {
		if xNeg != yNeg {
			return 0
		}
		return scaled(x, y, uint64(c))
	})
}

// Units returns how many units contain n, the last of them perhaps in part; 0 if n or unit is below 1.
func Units(n, unit int64) int64 {
	if n < 1 || unit < 1 {
		return 0
	}
	return (Clip(n)-1)/unit + 1
}

// signed returns what of computes with the magnitudes and the signs of a and b, or Most if that is less. Int64s would overflow where their magnitudes do not.
func signed(a, b int64, of func(x, y uint64, xNeg, yNeg bool) uint64) int64 {
	return int64(min(of(magnitude(a), magnitude(b), a < 0, b < 0), api.Most))
}

// magnitude returns n without its sign: 2^63, which is no int64, for the least one.
func magnitude(n int64) uint64 {
	if n < 0 {
		return -uint64(n)
	}
	return uint64(n)
}

// sum returns the sum of two numbers, or 0 if it is negative. It does not overflow: of two numbers that are not negative at most one had its sign reversed, and can be 2^63; the other one is below that.
func sum(x, y uint64, xNeg, yNeg bool) uint64 {
	switch {
	case xNeg && yNeg:
		return 0
	case xNeg:
		return y - min(x, y)
	case yNeg:
		return x - min(x, y)
	}
	return x + y
}

// scaled returns x * y / c, rounded down, or Most if that has more than 64 bits: then a division would panic.
func scaled(x, y, c uint64) uint64 {
	high, low := bits.Mul64(x, y)
	if high >= c {
		return api.Most
	}
	quotient, _ := bits.Div64(high, low, c)
	return quotient
}
