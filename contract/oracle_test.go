package contract_test

import (
	"math/rand/v2"
	"slices"

	"drifter/api"
)

func between(r *rand.Rand, low, high int) int { return low + r.IntN(high-low+1) }

func debt(from, to, due int) api.ContractDebt { return api.ContractDebt{From: from, To: to, Due: due} }

func season(price int, barrels ...int) api.ContractSeason {
	return api.ContractSeason{Price: price, Barrels: barrels}
}

// copied returns a copy of a book that shares nothing with it.
func copied(b api.ContractBook) api.ContractBook {
	c := api.ContractBook{Cash: slices.Clone(b.Cash), Debts: slices.Clone(b.Debts), Seasons: slices.Clone(b.Seasons)}
	for i := range c.Seasons {
		c.Seasons[i].Barrels = slices.Clone(c.Seasons[i].Barrels)
	}
	return c
}

// has returns what a party has in a season.
func has(b api.ContractBook, s, party int) int {
	return b.Cash[party] + b.Seasons[s].Barrels[party]*b.Seasons[s].Price
}

// gets returns what a party has and is paid by some payments.
func gets(b api.ContractBook, s, party int, by []int) int {
	n := has(b, s, party)
	for i, d := range b.Debts {
		if d.To == party {
			n += by[i]
		}
	}
	return n
}

// answer returns what all parties pay by some payments: of each debt what is left when all debts of its party before it are paid whole, as far as that goes.
func answer(b api.ContractBook, s int, by []int) []int {
	l := make([]int, len(b.Debts))
	for i, d := range b.Debts {
		rest := gets(b, s, d.From, by)
		for _, before := range b.Debts[:i] {
			if before.From == d.From {
				rest -= before.Due
			}
		}
		l[i] = max(0, min(rest, d.Due))
	}
	return l
}

func whole(b api.ContractBook) []int {
	var l []int
	for _, d := range b.Debts {
		l = append(l, d.Due)
	}
	return l
}

// history returns the payments of all rounds of a season; those of the last one are the same as those before it.
func history(b api.ContractBook, s int) [][]int {
	l := [][]int{whole(b)}
	for {
		n := len(l)
		l = append(l, answer(b, s, l[n-1]))
		if slices.Equal(l[n], l[n-1]) {
			return l
		}
	}
}

// broken returns in which round each debt breaks, or 0, and what is paid in the end, both found in the payments of all rounds.
func broken(b api.ContractBook, s int) (rounds, paid []int) {
	all := history(b, s)
	for i, d := range b.Debts {
		rounds = append(rounds, max(0, slices.IndexFunc(all, func(l []int) bool { return l[i] != d.Due })))
	}
	return rounds, all[len(all)-1]
}

// leftOf returns what is left to each party.
func leftOf(b api.ContractBook, s int, paid []int) []int {
	var l []int
	for party := range b.Cash {
		n := gets(b, s, party, paid)
		for i, d := range b.Debts {
			if d.From == party {
				n -= paid[i]
			}
		}
		l = append(l, n)
	}
	return l
}

// breaksOf returns the season and the debt that Breaks should, or -1.
func breaksOf(b api.ContractBook) (s, which int) {
	for s := range b.Seasons {
		rounds, _ := broken(b, s)
		for round := 1; slices.Max(append(rounds, 0)) >= round; round++ {
			if i := slices.Index(rounds, round); i >= 0 {
				return s, i
			}
		}
	}
	return -1, -1
}

// behindOf returns what is behind a debt, told from its end.
func behindOf(b api.ContractBook, rounds []int, which int) []int {
	l := []int{which}
	for rounds[which] > 1 {
		before := 0
		for b.Debts[before].To != b.Debts[which].From || rounds[before] == 0 || rounds[before] >= rounds[which] {
			before++
		}
		which = before
		l = append(l, which)
	}
	slices.Reverse(l)
	return l
}

// lent returns a book in which every party has more cash, be it more than can be.
func lent(b api.ContractBook, loans []int) api.ContractBook {
	b = copied(b)
	for party := range b.Cash {
		b.Cash[party] += loans[party]
	}
	return b
}

// holds reports whether no debt breaks in any season.
func holds(b api.ContractBook) bool {
	s, _ := breaksOf(b)
	return s < 0
}

// lists calls back with all lists of whole numbers from 0 to these.
func lists(most []int, back func(l []int)) {
	l := make([]int, len(most))
	for {
		back(l)
		i := 0
		for i < len(l) && l[i] == most[i] {
			l[i] = 0
			i++
		}
		if i == len(l) {
			return
		}
		l[i]++
	}
}

// fair returns all payments that are fair in a season of a small book.
func fair(b api.ContractBook, s int) (all [][]int) {
	lists(whole(b), func(l []int) {
		if slices.Equal(answer(b, s, l), l) {
			all = append(all, slices.Clone(l))
		}
	})
	return all
}

// anyDebts returns debts among some parties, many of which go round, and some of which are there twice.
func anyDebts(r *rand.Rand, parties, many, due int) []api.ContractDebt {
	var l []api.ContractDebt
	if parties < 2 {
		return nil
	}
	round := r.Perm(parties)
	round = round[:between(r, 2, parties)]
	for i := range many {
		d := debt(round[i%len(round)], round[(i+1)%len(round)], between(r, 1, due))
		if r.IntN(2) == 0 {
			d.From = r.IntN(parties)
			d.To = (d.From + between(r, 1, parties-1)) % parties
		}
		if i > 0 && r.IntN(12) == 0 {
			d = l[r.IntN(i)]
		}
		l = append(l, d)
	}
	r.Shuffle(len(l), func(i, k int) { l[i], l[k] = l[k], l[i] })
	return l
}

// sizes are those of a book that is made up.
type sizes struct{ parties, debts, seasons, due, cash, price, barrels int }

// small are those of which all payments can be gone through, great all that can be, fitting those in which debts are neither all paid nor all broken, calm those in which few are.
func small() sizes   { return sizes{4, 5, 3, 3, 2, 2, 1} }
func great() sizes   { return sizes{6, 12, 6, 10000, 10000, 100, 200} }
func fitting() sizes { return sizes{6, 12, 6, 200, 60, 10, 10} }
func calm() sizes    { return sizes{6, 4, 6, 100, 60, 10, 60} }

func anyBook(r *rand.Rand, z sizes) api.ContractBook {
	parties := between(r, 1, z.parties)
	b := api.ContractBook{Cash: make([]int, parties), Debts: anyDebts(r, parties, between(r, 0, z.debts), z.due)}
	cash := between(r, 0, z.cash)
	for party := range parties {
		if r.IntN(3) > 0 {
			b.Cash[party] = between(r, 0, cash)
		}
	}
	barrels := between(r, 0, z.barrels)
	for range between(r, 1, z.seasons) {
		s := api.ContractSeason{Price: between(r, 0, z.price)}
		for range parties {
			s.Barrels = append(s.Barrels, between(r, 0, barrels)*r.IntN(2))
		}
		b.Seasons = append(b.Seasons, s)
	}
	if r.IntN(2) == 0 { // the same barrels in all seasons, and the worst price last
		slices.SortFunc(b.Seasons, func(s, o api.ContractSeason) int { return o.Price - s.Price })
		for s := range b.Seasons {
			for party := range parties {
				b.Seasons[s].Barrels[party] = max(1, b.Seasons[0].Barrels[party])
			}
		}
	}
	return b
}

// anySizes are most often those of books in which some debts break.
func anySizes(r *rand.Rand) sizes {
	return []sizes{small(), great(), fitting(), calm()}[r.IntN(4)]
}
