package stock

import "drifter/api"

func areScales(l []api.StockScale) bool {
	for _, s := range l {
		if !isIn(s.Seen, 0, api.StockSeen) || !isSpan(s.Age, api.StockAge) {
			return false
		}
	}
	return len(l) <= api.StockScales
}

// ages are those that are asked for.
type ages struct{ api.Span }

// surely returns how many fish of a group are of these ages in every truth.
func (a ages) surely(s api.StockScale) int {
	if a.Low <= s.Age.Low && s.Age.High <= a.High {
		return s.Seen
	}
	return 0
}

// maybe returns how many fish of a group are of these ages in some truth.
func (a ages) maybe(s api.StockScale) int {
	if s.Age.Low <= a.High && a.Low <= s.Age.High {
		return s.Seen
	}
	return 0
}
