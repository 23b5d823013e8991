package nets

import (
	"cmp"
	"slices"

	"drifter/api"
)

// ends returns the least and the greatest of one or more values.
func ends[T cmp.Ordered](first T, more ...T) (least, greatest T) {
	least, greatest = first, first
	for _, x := range more {
		if x < least {
			least = x
		}
		if x > greatest {
			greatest = x
		}
	}
	return least, greatest
}

// isIn reports whether low <= n <= high.
func isIn(n, low, high int) bool { return low <= n && n <= high }

// areSpans reports whether all spans have their ends in order, from -most to most.
func areSpans(most int, spans ...api.Span) bool {
	for _, s := range spans {
		if s.Low > s.High || s.Low < -most || s.High > most {
			return false
		}
	}
	return true
}

// areWithin reports whether there are as many numbers as spans, each within its own.
func areWithin(numbers []int, spans []api.Span) bool {
	if len(numbers) != len(spans) {
		return false
	}
	for i, s := range spans {
		if !isIn(numbers[i], s.Low, s.High) {
			return false
		}
	}
	return true
}

// only is the span of a number that is known.
func only(n int) api.Span { return api.Span{Low: n, High: n} }

// sum returns between what all numbers together lie, if each lies in a span of its own.
func sum(spans ...api.Span) api.Span {
	var all api.Span
	for _, s := range spans {
		all.Low += s.Low
		all.High += s.High
	}
	return all
}

func minus(s api.Span) api.Span { return api.Span{Low: -s.High, High: -s.Low} }

// times is the span of n times the same number; n is not below 0.
func times(s api.Span, n int) api.Span { return api.Span{Low: n * s.Low, High: n * s.High} }

// meet reports whether a number lies in both spans. As all ends are whole, a whole one does if any does.
func meet(s, t api.Span) bool {
	_, low := ends(s.Low, t.Low)
	high, _ := ends(s.High, t.High)
	return low <= high
}

// firstOutside returns the least number from 0 on that lies in none of the spans. It sorts them.
func firstOutside(spans []api.Span) int {
	slices.SortFunc(spans, func(s, t api.Span) int { return cmp.Compare(s.Low, t.Low) })
	n := 0
	for _, s := range spans {
		if isIn(n, s.Low, s.High) {
			n = s.High + 1
		}
	}
	return n
}
