package brand

import (
	"cmp"

	"drifter/api"
)

// odds are such in the calculation: so many choices of so many.
type odds struct{ api.BrandOdds }

func areOdds(o api.BrandOdds) bool { return isIn(o.In, 1, api.BrandMost) && isIn(o.Of, 0, o.In) }

// against returns 1 if odds are more than others, 0 if they are the same, and -1 if they are less.
func (o odds) against(other api.BrandOdds) int {
	// a lot has fewer than 2^38 choices, so that nothing wraps around
	return cmp.Compare(o.Of*other.In, other.Of*o.In)
}

func (o odds) reduced() api.BrandOdds {
	divisor, rest := o.In, o.Of
	for rest > 0 {
		divisor, rest = rest, divisor%rest
	}
	return api.BrandOdds{Of: o.Of / divisor, In: o.In / divisor}
}

// choice is so many barrels that are opened of so many.
type choice struct{ open, of int }

// counter returns what tells how many choices there are, and keeps what it has told.
func counter() func(choice) int {
	known := map[choice]int{}
	var count func(c choice) int
	count = func(c choice) int {
		if !isIn(c.open, 0, c.of) {
			return 0
		}
		if c.open == 0 {
			return 1
		}
		n, is := known[c]
		if !is {
			// the last barrel is opened, or it is not
			n = count(choice{c.open - 1, c.of - 1}) + count(choice{c.open, c.of - 1})
			known[c] = n
		}
		return n
	}
	return count
}

// finding is what may be found when so many barrels are opened: that as many are below as are on one side of a number.
type finding struct {
	open int
	is   func(below int) bool
}

// lot is how many barrels a lot has, and how many choices there are among them.
type lot struct {
	barrels int
	choices func(choice) int
}

func isLot(barrels int) bool { return isIn(barrels, 1, api.BrandBarrels) }

func newLot(barrels int) lot { return lot{barrels, counter()} }

// odds returns with which odds something is found if so many barrels are below.
func (l lot) odds(below int, f finding) odds {
	n := 0
	for found := range f.open + 1 {
		if f.is(found) {
			n += l.choices(choice{found, below}) * l.choices(choice{f.open - found, l.barrels - below})
		}
	}
	return odds{api.BrandOdds{Of: n, In: l.choices(choice{f.open, l.barrels})}}
}

// below returns between what lies how many barrels can be below, so that all of some findings have odds of more than doubt.
func (l lot) below(doubt api.BrandOdds, all ...finding) (s api.Span, is bool) {
numbers:
	for below := range l.barrels + 1 {
		for _, f := range all {
			if l.odds(below, f).against(doubt) <= 0 {
				continue numbers
			}
		}
		if !is {
			s.Low, is = below, true
		}
		s.High = below
	}
	return s, is
}
