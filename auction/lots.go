package auction

import "drifter/api"

func areBaskets(l []api.Span) bool {
	if !isIn(len(l), 1, api.AuctionLoads) {
		return false
	}
	for _, basket := range l {
		if !isSpan(basket) || basket.Low < 0 || basket.High > api.AuctionGrade {
			return false
		}
	}
	return true
}

// isSpan reports whether there is a number between the two of a span.
func isSpan(s api.Span) bool { return s.Low <= s.High }

// common returns between what all numbers lie that are in both spans.
func common(a, b api.Span) api.Span {
	return api.Span{Low: max(a.Low, b.Low), High: min(a.High, b.High)}
}

// lots puts each basket into the lot before it, if it can be of one grade with that. No other way needs fewer: a lot that begins earlier does not end later.
func lots(l []api.Span) []int {
	var firsts []int
	grades := l[0]
	for i, basket := range l {
		grades = common(grades, basket)
		if i == 0 || !isSpan(grades) {
			firsts = append(firsts, i)
			grades = basket
		}
	}
	return firsts
}

func areLots(l []api.Span, firsts []int) bool {
	if len(firsts) == 0 || firsts[0] != 0 {
		return false
	}
	ends := append(firsts[1:len(firsts):len(firsts)], len(l))
	for i, first := range firsts {
		end := ends[i]
		if first >= end || end > len(l) || !isLot(l[first:end:end]) {
			return false
		}
	}
	return true
}

// isLot reports whether one or more baskets can be of one grade.
func isLot(l []api.Span) bool {
	grades := l[0]
	for _, basket := range l[1:] {
		grades = common(grades, basket)
	}
	return isSpan(grades)
}
