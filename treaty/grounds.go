package treaty

import (
	"slices"

	"drifter/api"
)

func areWishes(w [][]int) bool {
	nations := len(w)
	if !isIn(nations, 1, api.TreatyNations) {
		return false
	}
	for _, list := range w {
		if !isOrder(list, nations) {
			return false
		}
	}
	return true
}

// grounds are those of nations with wishes.
type grounds struct{ wishes [][]int }

// marks are on some nations, or on their grounds.
type marks [api.TreatyNations]bool

// all returns the marks that are on each nation.
func (g grounds) all() marks {
	var all marks
	for nation := range len(g.wishes) {
		all[nation] = true
	}
	return all
}

// pointing is how nations point while the next ring is made.
type pointing struct {
	grounds
	ringed marks
}

// owner returns to whom a nation points that is not in a ring yet: there is one, as it would point to itself at last.
func (p pointing) owner(nation int) int {
	list := p.wishes[nation]
	return list[slices.IndexFunc(list, func(owner int) bool { return !p.ringed[owner] })]
}

// ring returns the ring to which one comes from a nation.
func (p pointing) ring(from int) []int {
	pointsTo := p.owner
	var way []int
	var goOn func(nation int) []int
	goOn = func(nation int) []int {
		if at := slices.Index(way, nation); at >= 0 {
			return way[at:len(way):len(way)]
		}
		way = append(way, nation)
		return goOn(pointsTo(nation))
	}
	ring := goOn(from)
	least := slices.Index(ring, slices.Min(ring))
	return slices.Concat(ring[least:], ring[:least])
}

// rings returns all rings, in the order in which they are made.
func (g grounds) rings() [][]int {
	var rings [][]int
	var ringed marks
	all := g.all()
nations:
	for nation := range len(g.wishes) {
		// all lesser numbers are in rings: until it is in one itself, this is the nation to begin with
		for ringed != all {
			if ringed[nation] {
				continue nations
			}
			ring := pointing{g, ringed}.ring(nation)
			for _, member := range ring {
				ringed[member] = true
			}
			rings = append(rings, ring)
		}
	}
	return rings
}

// swap returns the exchange by the rings.
func (g grounds) swap() []int {
	var exchange [api.TreatyNations]int
	for _, ring := range g.rings() {
		for at, nation := range ring {
			exchange[nation] = ring[(at+1)%len(ring)]
		}
	}
	n := len(g.wishes)
	return exchange[:n:n]
}

// membersOf returns the nations of a set.
func membersOf(set int) []int {
	var members []int
	for nation := range api.TreatyNations {
		if set>>nation&1 == 1 {
			members = append(members, nation)
		}
	}
	return members
}

// isBetter reports whether some nations can hand out their own grounds so that they do better than by an exchange.
func (g grounds) isBetter(exchange, members []int) bool {
	var handOut func(at int, gone marks, better bool) bool
	handOut = func(at int, gone marks, better bool) bool {
		if at == len(members) {
			return better
		}
		nation := members[at]
		its, wish := exchange[nation], tasteOf(g.wishes[nation])
		for _, ground := range members {
			if gone[ground] || wish.better(its, ground) {
				continue
			}
			with := gone
			with[ground] = true
			if handOut(at+1, with, better || wish.better(ground, its)) {
				return true
			}
		}
		return false
	}
	return handOut(0, marks{}, false)
}
