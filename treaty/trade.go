package treaty

import (
	"iter"
	"slices"

	"drifter/api"
)

func isTrade(t api.TreatyTrade) bool {
	curers, countries := len(t.Curers), len(t.Countries)
	if !isIn(curers, 1, api.TreatyCurers) || !isIn(countries, 1, api.TreatyCountries) {
		return false
	}
	for _, list := range t.Curers {
		if !areSome(list, countries) {
			return false
		}
	}
	for _, c := range t.Countries {
		if !isIn(c.Room, 0, api.TreatyCurers) || !isOrder(c.Likes, curers) {
			return false
		}
	}
	return true
}

// pair is a curer and a country.
type pair struct{ curer, country int }

// nobody is no curer and no country.
var nobody = pair{none, none}

// trade is a valid one.
type trade struct{ api.TreatyTrade }

// pairs yields a curer with those countries of their list with which it is so, in the order of the list.
func (t trade) pairs(curer int, isSo func(pair) bool) iter.Seq[pair] {
	return func(yield func(pair) bool) {
		for _, country := range t.Curers[curer] {
			if p := (pair{curer, country}); isSo(p) && !yield(p) {
				return
			}
		}
	}
}

// sellers returns those who sell to a country, whom it likes better first.
func (t trade) sellers(country int, deals []int) []int {
	var l []int
	for _, curer := range t.Countries[country].Likes {
		if deals[curer] == country {
			l = append(l, curer)
		}
	}
	return l[:len(l):len(l)]
}

// tooMany returns a country that takes more curers than it has room for, and whom of them it likes least; nobody if there is none.
func (t trade) tooMany(deals []int) pair {
	for country, c := range t.Countries {
		l := t.sellers(country, deals)
		if n := len(l); n > c.Room {
			return pair{l[n-1], country}
		}
	}
	return nobody
}

// deals returns those that are best for curers.
func (t trade) deals() []int {
	// a pair that is refused is in no stable deals: as many others as there is room for, all of whom the country likes better, like no country better that has not refused them
	refused := map[pair]bool{}
	for {
		deals := t.asked(refused)
		last := t.tooMany(deals)
		if last == nobody {
			return deals
		}
		refused[last] = true
	}
}

// asked returns, for each curer, the first country of their list that did not refuse them.
func (t trade) asked(refused map[pair]bool) []int {
	isOpen := func(p pair) bool { return !refused[p] }
	var asked [api.TreatyCurers]int
	n := len(t.Curers)
	for curer := range n {
		asked[curer] = none
		for p := range t.pairs(curer, isOpen) {
			asked[curer] = p.country
			break
		}
	}
	return asked[:n:n]
}

// isStable reports whether deals are stable.
func (t trade) isStable(deals []int) bool {
	return t.areWanted(deals) && t.tooMany(deals) == nobody && t.rather(deals) == nobody
}

// areWanted reports whether each curer sells to a country of their list, or to none.
func (t trade) areWanted(deals []int) bool {
	for curer, country := range deals {
		if country != none && !slices.Contains(t.Curers[curer], country) {
			return false
		}
	}
	return true
}

// rather returns a curer and a country that would rather deal with each other, or nobody.
func (t trade) rather(deals []int) pair {
	for curer, country := range deals {
		wish := tasteOf(t.Curers[curer])
		for p := range t.pairs(curer, func(p pair) bool { return wish.better(p.country, country) }) {
			if t.isWelcome(p, deals) {
				return p
			}
		}
	}
	return nobody
}

// isWelcome reports whether a country has room for one more, or takes a curer whom it likes less.
func (t trade) isWelcome(p pair, deals []int) bool {
	c, l := t.Countries[p.country], t.sellers(p.country, deals)
	if len(l) < c.Room {
		return true
	}
	return len(l) > 0 && tasteOf(c.Likes).better(p.curer, l[len(l)-1])
}
