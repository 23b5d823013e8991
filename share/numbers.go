package share

import (
	"cmp"
	"math/bits"
)

// sum returns what all values are together, each of them being of so much.
func sum[T any](of func(T) int, values ...T) int {
	total := 0
	for _, x := range values {
		total += of(x)
	}
	return total
}

// itself is how much a number is: so sum adds up plain numbers, too.
func itself(n int) int { return n }

// least returns the least of one or more values.
func least[T cmp.Ordered](first T, more ...T) T {
	for _, x := range more {
		if x < first {
			first = x
		}
	}
	return first
}

// isIn reports whether low <= n <= high.
func isIn(n, low, high int) bool { return low <= n && n <= high }

// areIn reports whether all numbers are from low to high.
func areIn(low, high int, numbers ...int) bool {
	for _, n := range numbers {
		if !isIn(n, low, high) {
			return false
		}
	}
	return true
}

// wide is a whole number of two words: payments that are told can be so great, and so many, that one word would wrap around.
type wide struct {
	high int64
	low  uint64
}

func (w wide) plus(n int) wide {
	low, carry := bits.Add64(w.low, uint64(n), 0)
	// the shift spreads the sign of n over the whole word
	return wide{w.high + int64(n)>>63 + int64(carry), low}
}
