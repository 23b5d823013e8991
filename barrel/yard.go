package barrel

import (
	"slices"

	"drifter/api"
)

// none is what a plan has for a month in which no barrel is topped up, and what is told of a month or a barrel where there is none.
const none = -1

func isYard(l []api.BarrelCask) bool {
	for _, c := range l {
		if !isIn(c.Full, 1, api.BarrelLevel) || !isIn(c.Level, 0, c.Full) || !isIn(c.Line, 0, c.Full) || !isSpan(c.Leak, api.BarrelLevel) {
			return false
		}
	}
	return isIn(len(l), 1, api.BarrelYard)
}

// isPlan reports whether a plan is one of so many barrels.
func isPlan(plan []int, barrels int) bool {
	for _, topped := range plan {
		if !isIn(topped, none, barrels-1) {
			return false
		}
	}
	return areMonths(len(plan))
}

func areMonths(n int) bool { return isIn(n, 0, api.BarrelMonths) }

// areLeaks reports whether leaks are such of a yard and of so many months.
func areLeaks(leaks [][]int, l []api.BarrelCask, months int) bool {
	for _, month := range leaks {
		if len(month) != len(l) {
			return false
		}
		for barrel, c := range l {
			if !isIn(month[barrel], c.Leak.Low, c.Leak.High) {
				return false
			}
		}
	}
	return len(leaks) == months
}

// cask is a barrel of a yard, and how much it leaks in each month.
type cask struct {
	api.BarrelCask
	leak func(month int) int
}

// leaked returns how high the brine stands when it has leaked in a month.
func (c cask) leaked(month, level int) int { return max(0, level-c.leak(month)) }

func (c cask) isDry(level int) bool { return level < c.Line }

// yard is the barrels of a valid yard.
type yard []cask

// yardOf returns a yard of which these are the leaks.
func yardOf(l []api.BarrelCask, leaks [][]int) yard {
	var y yard
	for barrel, c := range l {
		y = append(y, cask{c, func(month int) int { return leaks[month][barrel] }})
	}
	return y
}

// worst returns a yard that leaks as much as it can: a plan that keeps that one keeps it with any leaks.
func worst(l []api.BarrelCask) yard {
	var y yard
	for _, c := range l {
		y = append(y, cask{c, func(int) int { return c.Leak.High }})
	}
	return y
}

// brine is, barrel by barrel, how high it stands.
type brine [api.BarrelYard]int

// begins returns how high the brine stands before the first month.
func (y yard) begins() brine {
	var b brine
	for barrel, c := range y {
		b[barrel] = c.Level
	}
	return b
}

// run returns how high the brine stands behind a plan, or in the first month in which some barrel is dry, and this month.
func (y yard) run(plan []int) (b brine, dry int) {
	b = y.begins()
	for month := range len(plan) {
		for barrel, c := range y {
			b[barrel] = c.leaked(month, b[barrel])
		}
		if y.dry(b) != none {
			return b, month
		}
		if topped := plan[month]; topped != none {
			b[topped] = y[topped].Full
		}
	}
	return b, none
}

// dry returns the least barrel that is dry.
func (y yard) dry(b brine) int {
	for barrel, c := range y {
		if c.isDry(b[barrel]) {
			return barrel
		}
	}
	return none
}

// first returns which barrel is dry first if none is topped up, and when.
func (y yard) first(months int) (barrel, month int) {
	b, month := y.run(slices.Repeat([]int{none}, months))
	if month == none {
		return none, none
	}
	return y.dry(b), month
}

// moment is how high the brine stands at the beginning of a month.
type moment struct {
	month int
	brine brine
}

// keep returns a plan of so many months in which no barrel is dry, if there is one.
func (y yard) keep(months int) (plan []int, is bool) {
	var tops [api.BarrelMonths]int
	vain := map[moment]bool{}
	var goOn func(now moment) bool
	goOn = func(now moment) bool {
		if now.month == months {
			return true
		}
		// topping up does no harm: where any plan keeps, so does one that tops up a barrel in every month
	barrels:
		for topped := range y {
			next := moment{month: now.month + 1}
			for barrel, c := range y {
				next.brine[barrel] = c.leaked(now.month, now.brine[barrel])
				if c.isDry(next.brine[barrel]) {
					break barrels // too late, whichever is topped up
				}
			}
			next.brine[topped] = y[topped].Full
			tops[now.month] = topped
			if !vain[next] && goOn(next) {
				return true
			}
		}
		vain[now] = true
		return false
	}
	if !goOn(moment{0, y.begins()}) {
		return nil, false
	}
	return tops[:months:months], true
}
