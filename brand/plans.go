package brand

import (
	"iter"

	"drifter/api"
)

// plan is a valid plan.
type plan struct{ api.BrandPlan }

func isPlan(p api.BrandPlan, barrels int) bool {
	return isIn(p.Open, 0, barrels) && isIn(p.Allow, 0, p.Open)
}

// passing is that a plan passes a lot.
func (p plan) passing() finding { return finding{p.Open, p.passes} }

// passes reports whether a plan passes a lot if so many barrels are found below.
func (p plan) passes(below int) bool { return below <= p.Allow }

// plans returns what produces all plans with from so many openings to so many, those with fewer of them first, then those that allow fewer barrels.
func plans(least, most int) iter.Seq[plan] {
	return func(yield func(plan) bool) {
		for open := least; open <= most; open++ {
			for allow := range open + 1 {
				if !yield(plan{api.BrandPlan{Open: open, Allow: allow}}) {
					return
				}
			}
		}
	}
}

func isRule(r api.BrandRule, barrels int) bool {
	return isIn(r.Good, 0, barrels) && isIn(r.Bad, r.Good+1, barrels) && areOdds(r.Pass) && areOdds(r.Fail)
}

// checkRule returns ErrRange unless a lot has so many barrels, then ErrBrandRule unless r is a valid rule of it.
func checkRule(barrels int, r api.BrandRule) api.Errno {
	if !isLot(barrels) {
		return api.ErrRange
	}
	if !isRule(r, barrels) {
		return api.ErrBrandRule
	}
	return api.OK
}

// bound is what odds must be if so many barrels are below.
type bound struct {
	below int
	keeps func(odds) bool
}

// bounds returns what a rule asks for. With a barrel more below odds are never greater: a plan that passes Good often enough does so with fewer, and one that passes Bad seldom enough with more.
func bounds(r api.BrandRule) [2]bound {
	return [...]bound{
		{r.Good, func(o odds) bool { return o.against(r.Pass) >= 0 }},
		{r.Bad, func(o odds) bool { return o.against(r.Fail) <= 0 }},
	}
}

// keeping returns what produces those of some plans that keep a rule.
func (l lot) keeping(r api.BrandRule, some iter.Seq[plan]) iter.Seq[plan] {
	return func(yield func(plan) bool) {
	plans:
		for p := range some {
			for _, b := range bounds(r) {
				if !b.keeps(l.odds(b.below, p.passing())) {
					continue plans
				}
			}
			if !yield(p) {
				return
			}
		}
	}
}

// keeps reports whether a plan keeps a rule.
func (l lot) keeps(r api.BrandRule, p plan) bool {
	only := func(yield func(plan) bool) { yield(p) }
	for range l.keeping(r, only) {
		return true
	}
	return false
}

// fewest returns the first plan that keeps a rule. There is one: whoever opens all barrels, and allows as many as are good, never errs.
func (l lot) fewest(r api.BrandRule) plan {
	for p := range l.keeping(r, plans(0, l.barrels)) {
		return p
	}
	return plan{}
}

// most returns the greatest number that a plan with so many openings allows and keeps a rule, or none.
func (l lot) most(r api.BrandRule, open int) int {
	allow := none
	for p := range l.keeping(r, plans(open, open)) {
		allow = greatest(allow, p.Allow)
	}
	return allow
}
