package stock

import (
	"iter"

	"drifter/api"
)

// mixture is races with their signs, and what is seen of the signs where they are mixed.
type mixture struct {
	races [][]api.Span
	seen  []api.Span
}

func (x mixture) isMixture() bool {
	if !isIn(len(x.races), 1, api.StockRaces) || !areSigns(x.seen) {
		return false
	}
	for _, signs := range x.races {
		if len(signs) != len(x.seen) || !areSigns(signs) {
			return false
		}
	}
	return true
}

func areSigns(l []api.Span) bool {
	for _, s := range l {
		if !isSpan(s, whole) {
			return false
		}
	}
	return isIn(len(l), 1, api.StockSigns)
}

// mixing is how many hundredths of the fish are of each race.
type mixing [api.StockRaces]int

// mixings yields all mixings of so many races.
func mixings(races int) iter.Seq[mixing] {
	return func(yield func(mixing) bool) {
		var m mixing
		var put func(race, left int) bool
		put = func(race, left int) bool {
			if race == races-1 {
				m[race] = left
				return yield(m)
			}
			for n := range left + 1 {
				m[race] = n
				if !put(race+1, left-n) {
					return false
				}
			}
			return true
		}
		put(0, whole)
	}
}

// side is one end of what can be: it tells which one of a share that is.
type side struct{ end func(api.Span) int }

// mixed returns how many of 10000 fish have a sign if each race has its share of this side.
func (s side) mixed(m mixing, races [][]api.Span, sign int) int {
	total := 0
	for race, signs := range races {
		total += m[race] * s.end(signs[sign])
	}
	return total
}

// agreeing yields the mixings that agree with what is seen.
func (x mixture) agreeing() iter.Seq[mixing] {
	least := side{func(share api.Span) int { return share.Low }}
	most := side{func(share api.Span) int { return share.High }}
	return func(yield func(mixing) bool) {
	trying:
		for m := range mixings(len(x.races)) {
			for sign, seen := range x.seen {
				if least.mixed(m, x.races, sign) > whole*seen.High || most.mixed(m, x.races, sign) < whole*seen.Low {
					continue trying
				}
			}
			if !yield(m) {
				return
			}
		}
	}
}

// shares returns between what the number of each race lies in the mixings that agree, if there are any.
func (x mixture) shares() (l []api.Span, is bool) {
	var all [api.StockRaces]api.Span
	for m := range x.agreeing() {
		for race, n := range m {
			if !is {
				all[race] = api.Span{Low: n, High: n}
			}
			all[race] = api.Span{Low: min(all[race].Low, n), High: max(all[race].High, n)}
		}
		is = true
	}
	n := len(x.races)
	return all[:n:n], is
}
