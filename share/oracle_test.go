package share_test

import (
	"math/big"
	"math/rand/v2"
	"slices"

	"drifter/api"
)

// This file says in other words what the document says, mostly by trying all that can be; it shares no code with the package.

// dividedBy divides pence by weights: all is rounded down, then each penny left goes to who has the greatest rest of those that got none yet.
func dividedBy(pence int, names []string, weights []int) []int {
	all := 0
	for _, w := range weights {
		all += w
	}
	got, rest := make([]int, len(weights)), make([]int, len(weights))
	left := pence
	for i, w := range weights {
		got[i], rest[i] = pence*w/all, pence*w%all
		left -= got[i]
	}
	for ; left > 0; left-- {
		best := 0
		for i := range rest {
			if rest[i] > rest[best] || rest[i] == rest[best] && names[i] < names[best] {
				best = i
			}
		}
		got[best]++
		rest[best] = -1
	}
	return got
}

func namesAndWeights(l []api.ShareStake) (names []string, weights []int) {
	for _, s := range l {
		names, weights = append(names, s.Name), append(weights, s.Weight)
	}
	return names, weights
}

// claimsOf returns the nets and the claims of all lenders, each by itself, and whether the loans are right.
func claimsOf(v api.ShareVoyage) (nets, claims []int, right bool) {
	right = len(v.Loans) <= 12
	for _, s := range v.Lenders {
		has, claim := s.Weight, 8*s.Weight
		for _, l := range v.Loans {
			if l.To == s.Name {
				has += l.Nets
				claim += 8*l.Nets - l.Rent*l.Nets
			}
			if l.From == s.Name {
				has -= l.Nets
				claim -= 8*l.Nets - l.Rent*l.Nets
			}
		}
		right = right && has >= 0 && claim >= 0
		nets, claims = append(nets, has), append(claims, claim)
	}
	return nets, claims, right
}

// partsOf returns the parts of the boat, the nets and the crew.
func partsOf(v api.ShareVoyage) []int {
	left := v.Gross
	for _, cost := range v.Costs {
		left -= cost
	}
	return dividedBy(left, []string{"boat", "nets", "crew"}, []int{v.Boat, v.Nets, v.Crew})
}

// sharesOf returns what each name gets, the names increasing.
func sharesOf(v api.ShareVoyage) []api.ShareDue {
	boat, owners := namesAndWeights(v.Owners)
	nets, _ := namesAndWeights(v.Lenders)
	crew, hands := namesAndWeights(v.Hands)
	_, claims, _ := claimsOf(v)
	parts := partsOf(v)
	all := slices.Concat(boat, nets, crew)
	slices.Sort(all)
	var l []api.ShareDue
	for _, name := range slices.Compact(all) {
		l = append(l, api.ShareDue{Name: name, Boat: of(name, parts[0], boat, owners), Nets: of(name, parts[1], nets, claims), Crew: of(name, parts[2], crew, hands)})
	}
	return l
}

// of returns what one name gets of a part.
func of(name string, part int, names []string, weights []int) int {
	i := slices.Index(names, name)
	if i < 0 || part == 0 {
		return 0
	}
	return dividedBy(part, names, weights)[i]
}

// isClearing adds payments up in numbers without bounds.
func isClearing(balances []int, l []api.SharePay) bool {
	left := make([]*big.Int, len(balances))
	for i, n := range balances {
		left[i] = big.NewInt(int64(n))
	}
	for _, p := range l {
		if p.From < 0 || p.From >= len(balances) || p.To < 0 || p.To >= len(balances) || p.From == p.To || p.Sum < 1 {
			return false
		}
		left[p.From].Add(left[p.From], big.NewInt(int64(p.Sum)))
		left[p.To].Sub(left[p.To], big.NewInt(int64(p.Sum)))
	}
	return !slices.ContainsFunc(left, func(n *big.Int) bool { return n.Sign() != 0 })
}

// areGroups reports whether groups are groups of balances.
func areGroups(balances []int, groups [][]int) bool {
	met := make([]int, len(balances))
	for _, group := range groups {
		together, last := 0, -1
		for _, number := range group {
			if number <= last || number >= len(balances) {
				return false
			}
			met[number]++
			together += balances[number]
			last = number
		}
		if together != 0 || len(group) == 0 {
			return false
		}
	}
	for number, balance := range balances {
		if balance == 0 && met[number] != 0 || balance != 0 && met[number] != 1 {
			return false
		}
	}
	return true
}

// mostGroups puts each balance that is not 0 in each group there is, or in a new one, and returns the most groups of those ways in which all are together 0.
func mostGroups(balances []int) int {
	most := 0
	var put func(number int, sums []int)
	put = func(number int, sums []int) {
		if number == len(balances) {
			if !slices.ContainsFunc(sums, func(n int) bool { return n != 0 }) {
				most = max(most, len(sums))
			}
			return
		}
		if balances[number] == 0 {
			put(number+1, sums)
			return
		}
		for i := range sums {
			sums[i] += balances[number]
			put(number+1, sums)
			sums[i] -= balances[number]
		}
		put(number+1, append(slices.Clone(sums), balances[number]))
	}
	put(0, nil)
	return most
}

// fewestPayments returns after how many payments at least all of four balances are 0: payments of 1 to 8 pence, by any to any, are tried until they are.
func fewestPayments(balances [4]int) int {
	now, met := [][4]int{balances}, map[[4]int]bool{balances: true}
	for n := 0; ; n++ {
		var next [][4]int
		for _, left := range now {
			if left == [4]int{} {
				return n
			}
			for from := range left {
				for to := range left {
					for pence := 1; pence <= 8 && from != to; pence++ {
						then := left
						then[from] += pence
						then[to] -= pence
						if then[from] <= 8 && then[to] >= -8 && !met[then] {
							met[then] = true
							next = append(next, then)
						}
					}
				}
			}
		}
		now = next
	}
}

func between(r *rand.Rand, low, high int) int { return low + r.IntN(high-low+1) }

// anyStakes returns up to so many stakes, with names of a few letters and in any order.
func anyStakes(r *rand.Rand, most int) []api.ShareStake {
	names := []string{"a", "aa", "a-", "a0", "b", "ba", "boat", "c", "crew", "d", "nets", "z", "z9", "zz"}
	r.Shuffle(len(names), func(i, j int) { names[i], names[j] = names[j], names[i] })
	greatest := []int{1, 3, 12, 1000}[r.IntN(4)]
	var l []api.ShareStake
	for i := range r.IntN(most + 1) {
		l = append(l, api.ShareStake{Name: names[i], Weight: between(r, 0, greatest)})
	}
	return l
}

// anyBacked returns stakes whose weights are together above 0.
func anyBacked(r *rand.Rand) []api.ShareStake {
	for {
		if l := anyStakes(r, api.ShareStakes); slices.ContainsFunc(l, func(s api.ShareStake) bool { return s.Weight > 0 }) {
			return l
		}
	}
}

func anySum(r *rand.Rand) int { return r.IntN([]int{2, 20, 300, 10000001}[r.IntN(4)]) }

func anyLoans(r *rand.Rand, lenders []api.ShareStake, most int) []api.ShareLoan {
	var l []api.ShareLoan
	for range r.IntN(most + 1) {
		from, to := r.IntN(len(lenders)), r.IntN(len(lenders))
		if from != to {
			l = append(l, api.ShareLoan{From: lenders[from].Name, To: lenders[to].Name, Nets: between(r, 1, 1+lenders[from].Weight), Rent: between(r, 0, 8)})
		}
	}
	return l
}

// anyVoyage returns a valid voyage; its loans are of those who are there, but can be wrong.
func anyVoyage(r *rand.Rand) api.ShareVoyage {
	v := api.ShareVoyage{Gross: anySum(r), Owners: anyBacked(r), Lenders: anyBacked(r), Hands: anyBacked(r)}
	left := v.Gross
	for range r.IntN(api.ShareCosts + 1) {
		cost := r.IntN(left/2 + 1)
		v.Costs = append(v.Costs, cost)
		left -= cost
	}
	v.Boat = between(r, 0, 8)
	v.Nets = between(r, 0, 8-v.Boat)
	v.Crew = 8 - v.Boat - v.Nets
	if v.Boat == 0 && r.IntN(2) == 0 {
		v.Owners = nil
	}
	v.Loans = anyLoans(r, v.Lenders, 6)
	return v
}

// each calls f with many voyages whose loans are right, the same ones each time.
func each(many int, f func(r *rand.Rand, v api.ShareVoyage)) {
	r := rand.New(rand.NewPCG(3, 12))
	for many > 0 {
		v := anyVoyage(r)
		if _, _, right := claimsOf(v); right {
			f(r, v)
			many--
		}
	}
}

// anyBalances returns balances of small numbers, so that many of them are together 0.
func anyBalances(r *rand.Rand, most, greatest int) []int {
	l := make([]int, r.IntN(most+1))
	for together := 0; ; together = 0 {
		for i := range l {
			l[i] = between(r, -greatest, greatest)
			together += l[i]
		}
		if together == 0 {
			return l
		}
	}
}

// eachDebt calls f with many balances, the same ones each time.
func eachDebt(many int, f func(r *rand.Rand, balances []int)) {
	r := rand.New(rand.NewPCG(3, 11))
	for range many {
		f(r, anyBalances(r, api.ShareClear, []int{1, 3, 10}[r.IntN(3)]))
	}
}
