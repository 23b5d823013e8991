package stock

import "drifter/api"

// whole is all of something, in hundredths.
const whole = 100

// none is what is told of a year where there is none.
const none = -1

// sum returns what all values are together, each of them being of so much.
func sum[T any](of func(T) int, values ...T) int {
	total := 0
	for _, x := range values {
		total += of(x)
	}
	return total
}

// isIn reports whether low <= n <= high.
func isIn(n, low, high int) bool { return low <= n && n <= high }

// areIn reports whether all numbers are from low to high.
func areIn(low, high int, numbers ...int) bool {
	for _, n := range numbers {
		if !isIn(n, low, high) {
			return false
		}
	}
	return true
}

// isSpan reports whether a span has its ends in order, from 0 to most.
func isSpan(s api.Span, most int) bool { return isIn(s.Low, 0, s.High) && s.High <= most }
