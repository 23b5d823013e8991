package contract

// sum returns what all values are together, each of them being of so much.
func sum[T any](of func(T) int, values ...T) int {
	total := 0
	for _, x := range values {
		total += of(x)
	}
	return total
}

// each returns what is told of each of so many parties.
func each[T any](parties int, x T, tell func(T, int) int) []int {
	l := make([]int, parties)
	for party := range l {
		l[party] = tell(x, party)
	}
	return l
}

// isIn reports whether low <= n <= high.
func isIn(n, low, high int) bool { return low <= n && n <= high }

// areIn reports whether all numbers are from low to high.
func areIn(low, high int, numbers ...int) bool {
	for _, n := range numbers {
		if !isIn(n, low, high) {
			return false
		}
	}
	return true
}
