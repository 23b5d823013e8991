package treaty

import (
	"sort"

	"drifter/api"
)

func areClaims(c api.TreatyClaims) bool {
	if !isIn(len(c.Rights), 1, api.TreatyNations) || !areIn(0, api.TreatyRight, c.Rights...) {
		return false
	}
	return isIn(c.Quota, 0, quotaOf(c).together(api.TreatyRight))
}

// nation is one that claims a part of a quota.
type nation struct{ right int }

// gets returns what a nation gets at a level.
func (n nation) gets(level int) int { return min(n.right, level) }

// quota is what can be divided, and those who claim it.
type quota struct {
	whole   int
	nations []nation
}

func quotaOf(c api.TreatyClaims) quota {
	q := quota{whole: c.Quota}
	for _, right := range c.Rights {
		q.nations = append(q.nations, nation{right})
	}
	return q
}

// together returns what all nations get at a level.
func (q quota) together(level int) int { return sum(nation.gets, level, q.nations...) }

// level returns the greatest level at which there is enough for all nations.
func (q quota) level() int {
	isTooHigh := func(level int) bool { return q.together(level) > q.whole }
	return sort.Search(api.TreatyRight+1, isTooHigh) - 1 // there is always enough at 0
}

// shares returns what each nation gets.
func (q quota) shares() []int {
	level := q.level()
	left := q.whole - q.together(level)
	var shares [api.TreatyNations]int
	n := len(q.nations)
	for number := range n {
		claimer := q.nations[number]
		shares[number] = claimer.gets(level)
		if left > 0 && claimer.right > level {
			shares[number]++
			left--
		}
	}
	return shares[:n:n]
}
