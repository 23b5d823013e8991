package clerk

// sum returns what all values are together, each of them being of so much.
func sum[T any](of func(T) int, values ...T) int {
	total := 0
	for _, x := range values {
		total += of(x)
	}
	return total
}

// itself is how much a number is: so sum adds up plain numbers, too.
func itself(n int) int { return n }

// isIn reports whether low <= n <= high.
func isIn(n, low, high int) bool { return low <= n && n <= high }
