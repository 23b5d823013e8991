package brand

import (
	"cmp"

	"drifter/api"
)

// none is what is told of a brand, or of a number that is allowed, where there is none.
const none = -1

// greatest returns the greatest of several numbers.
func greatest[T cmp.Ordered](first T, others ...T) T {
	for _, n := range others {
		first = max(first, n)
	}
	return first
}

// isIn reports whether low <= n <= high.
func isIn(n, low, high int) bool { return low <= n && n <= high }

// isSpan reports whether a span has its ends in order, from 0 to most.
func isSpan(s api.Span, most int) bool { return isIn(s.Low, 0, s.High) && s.High <= most }
