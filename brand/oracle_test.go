package brand_test

import (
	"math/big"
	"math/bits"
	"math/rand/v2"

	"drifter/api"
)

func to(low, high int) api.Span { return api.Span{Low: low, High: high} }

func of(n, in int) api.BrandOdds { return api.BrandOdds{Of: n, In: in} }

func opens(open, allow int) api.BrandPlan { return api.BrandPlan{Open: open, Allow: allow} }

func between(r *rand.Rand, low, high int) int { return low + r.IntN(high-low+1) }

// reaches holds each quality of a barrel to a brand.
func reaches(m api.BrandMark, b api.BrandBarrel) bool {
	for quality, n := range b {
		if n < m[quality].Low || n > m[quality].High {
			return false
		}
	}
	return true
}

// belowOf returns how many barrels do not reach a brand.
func belowOf(m api.BrandMark, l []api.BrandBarrel) int {
	n := 0
	for _, b := range l {
		if !reaches(m, b) {
			n++
		}
	}
	return n
}

// allChoices goes through all choices of the barrels of a small lot, of which the first ones are below, and returns how many there are in which from low to high of the opened barrels are below, and how many in all.
func allChoices(barrels, below, open, low, high int) (some, all int) {
	for choice := range 1 << barrels {
		if bits.OnesCount(uint(choice)) != open {
			continue
		}
		all++
		if found := bits.OnesCount(uint(choice & (1<<below - 1))); low <= found && found <= high {
			some++
		}
	}
	return some, all
}

// few is that at most so many of the opened barrels are found below.
type few struct{ barrels, below, open, allow int }

// fewOdds returns with which odds that is so, told by the barrels that are opened one by one. It keeps what it has told.
func fewOdds(known map[few]*big.Rat, f few) *big.Rat {
	if f.allow < 0 {
		return big.NewRat(0, 1)
	}
	if f.open == 0 {
		return big.NewRat(1, 1)
	}
	if o := known[f]; o != nil {
		return o
	}
	odds := new(big.Rat)
	if f.below > 0 {
		then := fewOdds(known, few{f.barrels - 1, f.below - 1, f.open - 1, f.allow - 1})
		odds.Add(odds, new(big.Rat).Mul(big.NewRat(int64(f.below), int64(f.barrels)), then))
	}
	if f.below < f.barrels {
		then := fewOdds(known, few{f.barrels - 1, f.below, f.open - 1, f.allow})
		odds.Add(odds, new(big.Rat).Mul(big.NewRat(int64(f.barrels-f.below), int64(f.barrels)), then))
	}
	known[f] = odds
	return odds
}

// teller tells odds, and keeps what it has told.
type teller map[few]*big.Rat

// atMost returns the odds of finding at most so many barrels below.
func (k teller) atMost(barrels, below, open, found int) *big.Rat {
	return fewOdds(k, few{barrels, below, open, found})
}

// atLeast returns the odds of finding so many barrels below, or more.
func (k teller) atLeast(barrels, below, open, found int) *big.Rat {
	return new(big.Rat).Sub(big.NewRat(1, 1), k.atMost(barrels, below, open, found-1))
}

func rat(o api.BrandOdds) *big.Rat { return big.NewRat(int64(o.Of), int64(o.In)) }

// keeps holds a plan to a rule with every number of barrels below.
func (k teller) keeps(barrels int, r api.BrandRule, p api.BrandPlan) bool {
	for below := 0; below <= barrels; below++ {
		odds := k.atMost(barrels, below, p.Open, p.Allow)
		if below <= r.Good && odds.Cmp(rat(r.Pass)) < 0 || below >= r.Bad && odds.Cmp(rat(r.Fail)) > 0 {
			return false
		}
	}
	return true
}

// fewest goes through all plans and returns the best one that keeps a rule.
func (k teller) fewest(barrels int, r api.BrandRule) (best api.BrandPlan) {
	best.Open = barrels + 1
	for open := barrels; open >= 0; open-- {
		for allow := open; allow >= 0; allow-- {
			if p := opens(open, allow); k.keeps(barrels, r, p) {
				best = p
			}
		}
	}
	return best
}

// told returns which numbers of barrels can be below.
func (k teller) told(barrels, opened, found int, doubt api.BrandOdds) []int {
	var l []int
	for below := range barrels + 1 {
		if k.atMost(barrels, below, opened, found).Cmp(rat(doubt)) > 0 && k.atLeast(barrels, below, opened, found).Cmp(rat(doubt)) > 0 {
			l = append(l, below)
		}
	}
	return l
}

// promise returns the brand that a lot is promised, and what is allowed, or -1.
func (k teller) promise(m []api.BrandMark, barrels int, r api.BrandRule, opened []api.BrandBarrel) (which, allow int) {
	allow = -1
	for n := range len(opened) + 1 {
		if k.keeps(barrels, r, opens(len(opened), n)) {
			allow = n
		}
	}
	for i := range m {
		if belowOf(m[i], opened) <= allow {
			return i, allow
		}
	}
	return -1, -1
}

// anyOdds returns valid odds; those that decide most often are told most often.
func anyOdds(r *rand.Rand, often float64) api.BrandOdds {
	if r.IntN(12) == 0 {
		return []api.BrandOdds{of(0, 1), of(1, 1), of(0, 1000), of(1000, 1000), of(1, 1000), of(999, 1000)}[r.IntN(6)]
	}
	in := between(r, 1, api.BrandMost)
	if r.IntN(3) == 0 {
		return of(between(r, 0, in), in)
	}
	near := min(in, max(0, int(often*float64(in))+between(r, -in/20, in/20)))
	return of(near, in)
}

// anyRule returns a valid rule of a lot of so many barrels.
func anyRule(r *rand.Rand, barrels int) api.BrandRule {
	good := between(r, 0, barrels-1)
	if r.IntN(2) == 0 {
		good = between(r, 0, (barrels-1)/4)
	}
	return api.BrandRule{Good: good, Pass: anyOdds(r, 0.9), Bad: between(r, good+1, barrels), Fail: anyOdds(r, 0.1)}
}

func anyPlan(r *rand.Rand, barrels int) api.BrandPlan {
	open := between(r, 0, barrels)
	allow := between(r, 0, open)
	if r.IntN(2) == 0 {
		allow = between(r, 0, open/3)
	}
	return opens(open, allow)
}

// anyMarks returns brands that barrels reach and miss; a later one is mostly wider.
func anyMarks(r *rand.Rand) []api.BrandMark {
	l := make([]api.BrandMark, between(r, 1, api.BrandMarks))
	for i := range l {
		for quality := range l[i] {
			wide := between(r, 0, 400+120*i)
			low := between(r, 0, api.BrandMost-wide)
			if r.IntN(2) == 0 {
				low = (api.BrandMost - wide) / 2
			}
			l[i][quality] = to(low, low+wide)
		}
	}
	return l
}

// anyBarrels returns so many barrels, most of which reach some brand, or just miss it.
func anyBarrels(r *rand.Rand, m []api.BrandMark, many int) []api.BrandBarrel {
	var l []api.BrandBarrel
	m = m[r.IntN(len(m)):]
	for range many {
		var b api.BrandBarrel
		near := m[r.IntN(len(m))]
		for quality, s := range near {
			b[quality] = between(r, s.Low, s.High)
			if r.IntN(8) == 0 {
				b[quality] = []int{s.Low, s.High, max(0, s.Low-1), min(api.BrandMost, s.High+1), between(r, 0, api.BrandMost)}[r.IntN(5)]
			}
		}
		l = append(l, b)
	}
	return l
}
