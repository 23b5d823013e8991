package shoal

import "cmp"

// least returns the least of one or more values.
func least[T cmp.Ordered](first T, more ...T) T {
	for _, x := range more {
		if x < first {
			first = x
		}
	}
	return first
}

// greatest returns the greatest of one or more values.
func greatest[T cmp.Ordered](first T, more ...T) T {
	for _, x := range more {
		if x > first {
			first = x
		}
	}
	return first
}

// isIn reports whether low <= n <= high.
func isIn(n, low, high int) bool { return low <= n && n <= high }
