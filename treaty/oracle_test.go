package treaty_test

import (
	"math/rand/v2"
	"slices"

	"drifter/api"
)

func between(r *rand.Rand, low, high int) int { return low + r.IntN(high-low+1) }

// claim is a quota, and the rights of nations.
func claim(quota int, rights ...int) api.TreatyClaims {
	return api.TreatyClaims{Quota: quota, Rights: rights}
}

// country has room for some curers, and likes them in an order.
func country(room int, likes ...int) api.TreatyCountry {
	return api.TreatyCountry{Room: room, Likes: likes}
}

func total(l []int) int {
	n := 0
	for _, x := range l {
		n += x
	}
	return n
}

func deep[T any](l [][]T) [][]T {
	l = slices.Clone(l)
	for i := range l {
		l[i] = slices.Clone(l[i])
	}
	return l
}

func same(a, b [][]int) bool { return slices.EqualFunc(a, b, slices.Equal[[]int]) }

// anyClaims returns claims of rights up to most, some of which are often the same.
func anyClaims(r *rand.Rand, most int) api.TreatyClaims {
	var c api.TreatyClaims
	for range between(r, 1, 8) {
		right := between(r, 0, most)
		if len(c.Rights) > 0 && r.IntN(3) == 0 {
			right = c.Rights[r.IntN(len(c.Rights))]
		}
		c.Rights = append(c.Rights, right)
	}
	c.Quota = between(r, 0, total(c.Rights))
	return c
}

// oneByOne hands out a quota one by one, each to the nation that has least of those that can have more, of several to the first one.
func oneByOne(c api.TreatyClaims) []int {
	l := make([]int, len(c.Rights))
	for range c.Quota {
		to := -1
		for k := range l {
			if l[k] < c.Rights[k] && (to < 0 || l[k] < l[to]) {
				to = k
			}
		}
		l[to]++
	}
	return l
}

// anyWishes returns wishes of so many nations, which are often alike.
func anyWishes(r *rand.Rand, nations int) [][]int {
	var w [][]int
	alike := r.IntN(3)
	for range nations {
		list := r.Perm(nations)
		if alike > 0 && len(w) > 0 {
			list = slices.Clone(w[r.IntN(len(w))])
			for range r.IntN(alike + 1) {
				i, k := r.IntN(nations), r.IntN(nations)
				list[i], list[k] = list[k], list[i]
			}
		}
		w = append(w, list)
	}
	return w
}

// orders returns all orders of some numbers.
func orders(l []int) (all [][]int) {
	if len(l) == 0 {
		return [][]int{nil}
	}
	for i, first := range l {
		for _, rest := range orders(slices.Delete(slices.Clone(l), i, i+1)) {
			all = append(all, append([]int{first}, rest...))
		}
	}
	return all
}

// first returns the numbers from 0 to n-1.
func first(n int) []int {
	l := make([]int, n)
	for i := range l {
		l[i] = i
	}
	return l
}

// allWishes returns all wishes of so many nations.
func allWishes(nations int) [][][]int {
	all := [][][]int{nil}
	for range nations {
		var more [][][]int
		for _, w := range all {
			for _, list := range orders(first(nations)) {
				more = append(more, append(slices.Clone(w), list))
			}
		}
		all = more
	}
	return all
}

// members returns the nations of a set.
func members(set, nations int) (l []int) {
	for k := range nations {
		if set&(1<<k) != 0 {
			l = append(l, k)
		}
	}
	return l
}

// setOf returns the set of some nations.
func setOf(l []int) (set int) {
	for _, k := range l {
		set |= 1 << k
	}
	return set
}

// doesBetter tries all ways to hand out the grounds of a set.
func doesBetter(w [][]int, exchange []int, set int) bool {
	l := members(set, len(w))
	return slices.ContainsFunc(orders(l), func(handed []int) bool {
		earlier := false
		for i, k := range l {
			now, then := slices.Index(w[k], handed[i]), slices.Index(w[k], exchange[k])
			if now > then {
				return false
			}
			earlier = earlier || now < then
		}
		return earlier
	})
}

// made returns the rings as the chapter makes them, and what each nation gets.
func made(w [][]int) (rings [][]int, exchange []int) {
	left := first(len(w))
	exchange = make([]int, len(w))
	for len(left) > 0 {
		points := map[int]int{}
		for _, k := range left {
			for i := len(w[k]) - 1; i >= 0; i-- {
				if slices.Contains(left, w[k][i]) {
					points[k] = w[k][i]
				}
			}
		}
		at := left[0]
		for range left { // after as many steps one is surely in the ring
			at = points[at]
		}
		all := []int{at}
		for k := points[at]; k != at; k = points[k] {
			all = append(all, k)
		}
		ring := []int{slices.Min(all)}
		for len(ring) < len(all) {
			ring = append(ring, points[ring[len(ring)-1]])
		}
		for _, k := range ring {
			exchange[k] = points[k]
		}
		rings = append(rings, ring)
		left = slices.DeleteFunc(left, func(k int) bool { return slices.Contains(ring, k) })
	}
	return rings, exchange
}

// anyTrade returns a trade of at most so many curers and countries.
func anyTrade(r *rand.Rand, curers, countries int) api.TreatyTrade {
	var t api.TreatyTrade
	curers, countries = between(r, 1, curers), between(r, 1, countries)
	eager := r.IntN(2) == 0
	for range curers {
		list := r.Perm(countries)
		if !eager {
			list = list[:r.IntN(countries+1)]
		}
		t.Curers = append(t.Curers, list)
	}
	single := r.IntN(2) == 0
	for range countries {
		room := 1
		if !single {
			room = between(r, 0, 3)
		}
		t.Countries = append(t.Countries, country(room, r.Perm(curers)...))
	}
	if r.IntN(10) == 0 {
		t.Countries[r.IntN(countries)].Room = 8
	}
	return t
}

func copied(t api.TreatyTrade) api.TreatyTrade {
	t.Curers, t.Countries = deep(t.Curers), slices.Clone(t.Countries)
	for i := range t.Countries {
		t.Countries[i].Likes = slices.Clone(t.Countries[i].Likes)
	}
	return t
}

// likes tells how well a curer likes what they have: the greater, the better; 0 is none.
func likes(t api.TreatyTrade, curer, country int) int {
	at := slices.Index(t.Curers[curer], country)
	if at < 0 {
		return 0
	}
	return 10 - at
}

// takes returns how many curers sell to a country.
func takes(deals []int, country int) (n int) {
	for _, d := range deals {
		if d == country {
			n++
		}
	}
	return n
}

// isStable holds deals to the chapter's words.
func isStable(t api.TreatyTrade, deals []int) bool {
	for curer, d := range deals {
		if d >= 0 && likes(t, curer, d) == 0 {
			return false
		}
	}
	for number, c := range t.Countries {
		if takes(deals, number) > c.Room {
			return false
		}
		for curer, d := range deals {
			if likes(t, curer, number) <= likes(t, curer, d) {
				continue
			}
			likesLess := func(other int) bool { return slices.Index(c.Likes, other) > slices.Index(c.Likes, curer) }
			would := takes(deals, number) < c.Room
			for other, to := range deals {
				would = would || to == number && likesLess(other)
			}
			if would {
				return false
			}
		}
	}
	return true
}

// allDeals calls back with all lists of one number for each curer.
func allDeals(t api.TreatyTrade, back func(deals []int)) {
	deals := make([]int, len(t.Curers))
	var goOn func(curer int)
	goOn = func(curer int) {
		if curer == len(deals) {
			back(deals)
			return
		}
		for country := -1; country < len(t.Countries); country++ {
			deals[curer] = country
			goOn(curer + 1)
		}
	}
	goOn(0)
}

// stableDeals returns all deals that are stable by the chapter's words.
func stableDeals(t api.TreatyTrade) (all [][]int) {
	allDeals(t, func(deals []int) {
		if isStable(t, deals) {
			all = append(all, slices.Clone(deals))
		}
	})
	return all
}

// allLists returns all lists of some countries, none of them twice.
func allLists(countries int) (all [][]int) {
	for set := range 1 << countries {
		all = append(all, orders(members(set, countries))...)
	}
	return all
}
