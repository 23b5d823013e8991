package auction_test

import (
	"cmp"
	"math/rand/v2"
	"slices"

	"drifter/api"
)

// winnersOf counts for each offer how many bids come before it.
func winnersOf(s api.AuctionSale) []int {
	gets := make([]int, len(s.Offers))
	for buyer, offers := range s.Offers {
		for place, n := range offers {
			before := 0
			for other, l := range s.Offers {
				for i, m := range l {
					if m >= s.Least && (m > n || m == n && (other < buyer || other == buyer && i < place)) {
						before++
					}
				}
			}
			if n >= s.Least && before < s.Crans {
				gets[buyer]++
			}
		}
	}
	return gets
}

// worthIn returns what a sale is worth in which each buyer gets so many crans, for which they offered, and each other cran is worth the least price.
func worthIn(s api.AuctionSale, gets []int) int {
	worth := s.Least * s.Crans
	for buyer, n := range gets {
		for _, offer := range s.Offers[buyer][:n] {
			worth += offer - s.Least
		}
	}
	return worth
}

// mostWorth gives each buyer in turn any number of crans, and returns the greatest worth there is.
func mostWorth(s api.AuctionSale) int {
	best := -1
	gets := make([]int, len(s.Offers))
	var give func(buyer, left int)
	give = func(buyer, left int) {
		if buyer == len(s.Offers) {
			best = max(best, worthIn(s, gets))
			return
		}
		for n := range min(left, len(s.Offers[buyer])) + 1 {
			gets[buyer] = n
			give(buyer+1, left-n)
		}
		gets[buyer] = 0
	}
	give(0, s.Crans)
	return best
}

// worthOf returns the greatest worth there is, crans known one buyer after the other: the best of all sums of first offers, with so many crans for the buyers so far.
func worthOf(s api.AuctionSale) int {
	best := make([]int, s.Crans+1) // by how many crans are left
	for left := range best {
		best[left] = s.Least * left
	}
	for _, offers := range s.Offers {
		next := make([]int, s.Crans+1)
		for left := range next {
			next[left] = best[left]
			together := 0
			for n, offer := range offers[:min(left, len(offers))] {
				together += offer
				next[left] = max(next[left], together+best[left-n-1])
			}
		}
		best = next
	}
	return best[s.Crans]
}

// lostBy returns how much more the sale is worth to all others, if a buyer is not there.
func lostBy(s api.AuctionSale, buyer int) int {
	own := 0
	for _, offer := range s.Offers[buyer][:winnersOf(s)[buyer]] {
		own += offer
	}
	return worthOf(without(s, buyer)) - (worthOf(s) - own)
}

func without(s api.AuctionSale, buyer int) api.AuctionSale {
	s = deep(s)
	s.Offers[buyer] = nil
	return s
}

// takenBy sorts all bids as the clock comes to them, and returns what is taken at a price, and the least price of these.
func takenBy(s api.AuctionSale, order []int, price int) (taken []int, least int) {
	type claim struct{ offer, turn, buyer int }
	var l []claim
	for turn, buyer := range order {
		for _, offer := range s.Offers[buyer] {
			if offer >= s.Least {
				l = append(l, claim{offer, turn, buyer})
			}
		}
	}
	slices.SortFunc(l, func(a, b claim) int {
		return cmp.Or(cmp.Compare(b.offer, a.offer), cmp.Compare(a.turn, b.turn))
	})
	taken, least = make([]int, len(order)), -1
	for _, c := range l[:min(len(l), s.Crans)] {
		if c.offer >= price {
			taken[c.buyer]++
			least = c.offer
		}
	}
	return taken, least
}

// isGrade tries all numbers of a grade.
func isGrade(l []api.Span) bool {
	for n := range api.AuctionGrade + 1 {
		if !slices.ContainsFunc(l, func(s api.Span) bool { return n < s.Low || n > s.High }) {
			return true
		}
	}
	return false
}

// allLots returns all lists of the first baskets of lots.
func allLots(l []api.Span) [][]int {
	right := map[[2]int]bool{}
	for from := range l {
		for end := from + 1; end <= len(l); end++ {
			right[[2]int{from, end}] = isGrade(l[from:end])
		}
	}
	var all [][]int
	var put func(firsts []int, from int)
	put = func(firsts []int, from int) {
		if from == len(l) {
			all = append(all, firsts)
			return
		}
		for end := from + 1; end <= len(l); end++ {
			if right[[2]int{from, end}] {
				put(append(slices.Clone(firsts), from), end)
			}
		}
	}
	put(nil, 0)
	return all
}

func between(r *rand.Rand, low, high int) int { return low + r.IntN(high-low+1) }

// anyPrices returns up to so many numbers that do not increase, many of them equal.
func anyPrices(r *rand.Rand, most int) []int {
	greatest := []int{3, 20, 10000}[r.IntN(3)]
	var l []int
	for range between(r, 0, most) {
		l = append(l, between(r, 0, greatest))
	}
	slices.Sort(l)
	slices.Reverse(l)
	return l
}

// anyPrice returns a price from Least on at which the clock stands, often one at which somebody takes crans, or just beside it.
func anyPrice(r *rand.Rand, s api.AuctionSale) int {
	price := between(r, s.Least, api.AuctionPrice)
	if all := slices.Concat(s.Offers...); len(all) > 0 {
		price = all[r.IntN(len(all))] + between(r, -1, 1)
	}
	return min(max(price, s.Least), api.AuctionPrice)
}

// anySale returns a valid sale of up to so many crans, buyers and offers of each.
func anySale(r *rand.Rand, crans, buyers, offers int) api.AuctionSale {
	s := api.AuctionSale{Crans: between(r, 0, crans), Least: []int{0, 1, 2, 5, 15, 1000, 10000}[r.IntN(7)]}
	for range between(r, 1, buyers) {
		s.Offers = append(s.Offers, anyPrices(r, offers))
	}
	return s
}

// each calls f with many sales, the same ones each time.
func each(many int, f func(r *rand.Rand, s api.AuctionSale)) {
	r := rand.New(rand.NewPCG(4, 1))
	for i := range many {
		if i%10 == 0 {
			f(r, anySale(r, api.AuctionCrans, api.AuctionBuyers, api.AuctionCrans))
		} else {
			f(r, anySale(r, 12, 5, 6))
		}
	}
}

// anyBaskets returns up to so many baskets, of few grades or of many.
func anyBaskets(r *rand.Rand, most int) []api.Span {
	greatest := []int{2, 9, 100, 1000}[r.IntN(4)]
	wide := between(r, 0, greatest)
	var l []api.Span
	for range between(r, 1, most) {
		low := between(r, 0, greatest)
		l = append(l, api.Span{Low: low, High: min(api.AuctionGrade, low+between(r, 0, wide))})
	}
	return l
}

// eachLoad calls f with many lists of baskets, the same ones each time.
func eachLoad(many int, f func(r *rand.Rand, l []api.Span)) {
	r := rand.New(rand.NewPCG(4, 2))
	for range many {
		f(r, anyBaskets(r, 9))
	}
}
