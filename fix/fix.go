// Package fix is layer 1: numbers in millionths, as texts and in sums.
package fix

import (
	"math"
	"math/bits"
)

// Add is the sum, or the end of 64 bits that it is beyond; true: it is beyond it.
func Add(a, b int64) (int64, bool) {
	sum := a + b
	if (a < 0) == (b < 0) && (sum < 0) != (a < 0) {
		return end(a < 0), true
	}
	return sum, false
}

// Sub is the difference, or the end of 64 bits that it is beyond; true: it is beyond it.
func Sub(a, b int64) (int64, bool) {
	difference := a - b
	if (a < 0) != (b < 0) && (difference < 0) != (a < 0) {
		return end(a < 0), true
	}
	return difference, false
}

// Scale is a times num by den, rounded down, or the end of 64 bits that it is beyond; true: it is beyond it. A den below 1 is as 1.
func Scale(a, num, den int64) (int64, bool) {
	below := (a < 0) != (num < 0)
	by := uint64(max(den, 1))
	high, low := bits.Mul64(size(a), size(num))
	if high >= by { // bits.Div64 takes no quotient beyond 64 bits
		return end(below), true
	}
	quotient, rest := bits.Div64(high, low, by)
	if below && rest > 0 && quotient < math.MaxUint64 {
		quotient++ // below 0, down is away from 0
	}
	return signed(quotient, below)
}

// end is the least number, or the greatest.
func end(least bool) int64 {
	if least {
		return math.MinInt64
	}
	return math.MaxInt64
}

// size is how far a number is from 0; the least one's has no room in an int64.
func size(n int64) uint64 {
	if n < 0 {
		return -uint64(n)
	}
	return uint64(n)
}

// signed is the number of a size, or the end of 64 bits that it is beyond; true: it is beyond it.
func signed(n uint64, below bool) (int64, bool) {
	switch {
	case below && n > 1<<63, !below && n > math.MaxInt64:
		return end(below), true
	case below:
		return int64(-n), false
	}
	return int64(n), false
}
