package treaty

import "slices"

// none is told where there is no country, and no curer.
const none = -1

// sum returns what all values are together, each of them being of so much at a level.
func sum[T any](of func(T, int) int, level int, values ...T) int {
	total := 0
	for _, x := range values {
		total += of(x, level)
	}
	return total
}

// isIn reports whether low <= n <= high.
func isIn(n, low, high int) bool { return low <= n && n <= high }

// areIn reports whether all numbers are from low to high.
func areIn(low, high int, numbers ...int) bool {
	for _, n := range numbers {
		if !isIn(n, low, high) {
			return false
		}
	}
	return true
}

// areSome reports whether a list has some of the numbers from 0 to n-1, none of them twice.
func areSome(list []int, n int) bool {
	for at, x := range list {
		if !isIn(x, 0, n-1) || slices.Contains(list[:at], x) {
			return false
		}
	}
	return true
}

// isOrder reports whether a list has all numbers from 0 to n-1 just once.
func isOrder(list []int, n int) bool { return len(list) == n && areSome(list, n) }

// taste is that of somebody: it tells what they like better than something else.
type taste struct{ better func(one, other int) bool }

// tasteOf returns the taste of somebody who likes better what comes earlier in a list, and least what is not in it.
func tasteOf(list []int) taste {
	place := func(x int) int {
		if at := slices.Index(list, x); at >= 0 {
			return at
		}
		return len(list)
	}
	return taste{func(one, other int) bool { return place(one) < place(other) }}
}
