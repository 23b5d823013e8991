package barrel

import "drifter/api"

// sum returns what all values are together, each of them being of so much.
func sum[T any](of func(T) int, values ...T) int {
	total := 0
	for _, x := range values {
		total += of(x)
	}
	return total
}

// isIn reports whether low <= n <= high.
func isIn(n, low, high int) bool { return low <= n && n <= high }

// isSpan reports whether a span has its ends in order, from 0 to most.
func isSpan(s api.Span, most int) bool { return isIn(s.Low, 0, s.High) && s.High <= most }
