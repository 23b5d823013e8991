package shoal

import "drifter/api"

// cast is a cast of a sounder, with the place of its cell.
type cast struct {
	api.ShoalCast
	at place
}

func (c cast) covers(p place) bool { return c.at.distance(p) <= c.Far }

// worst returns how many places are left, whether the cast shows the shoal or not.
func (c cast) worst(places []place) int {
	missed := len(without(places, c, cast.covers))
	return greatest(missed, len(places)-missed)
}

// without returns the values that by does not have.
func without[T, B any](l []T, by B, has func(B, T) bool) []T {
	var left []T
	for _, x := range l {
		if !has(by, x) {
			left = append(left, x)
		}
	}
	return left
}

// newSearch checks everything that is asked of casts, and returns the places in which the shoal can be, and the casts.
func newSearch(s api.ShoalSea, l []api.ShoalReport, wrong, hour int, casts []api.ShoalCast) ([]place, []cast, api.Errno) {
	w, e := newAsked(s, l, wrong, hour)
	if e != api.OK {
		return nil, nil, e
	}
	if !w.areCasts(casts) {
		return nil, nil, api.ErrShoalAsk
	}
	var places []place
	for _, cell := range w.can(wrong, hour) {
		places = append(places, w.place(cell))
	}
	if len(places) == 0 {
		return nil, nil, api.ErrShoalFalse
	}
	return places, w.castsOf(casts), api.OK
}

func (s *sea) areCasts(casts []api.ShoalCast) bool {
	if !isIn(len(casts), 1, api.ShoalCasts) {
		return false
	}
	for _, c := range casts {
		if !s.isCell(c.Cell) || !isIn(c.Far, 0, api.ShoalFar) {
			return false
		}
	}
	return true
}

func (s *sea) castsOf(casts []api.ShoalCast) []cast {
	var l []cast
	for _, c := range casts {
		l = append(l, cast{c, s.place(c.Cell)})
	}
	return l
}

// fewestCasts returns the fewest casts that cover all places, of several lists the first one; none, if all casts do not.
func fewestCasts(places []place, casts []cast) []int {
	var seek func(chosen []int, more int, missed []place) []int
	seek = func(chosen []int, more int, missed []place) []int {
		if more == 0 {
			if len(missed) == 0 {
				return chosen
			}
			return nil
		}
		next := 0
		if n := len(chosen); n > 0 {
			next = chosen[n-1] + 1
		}
		for i := next; i < len(casts); i++ {
			// without room to grow: lists that begin alike share no memory
			longer := append(chosen[:len(chosen):len(chosen)], i)
			if found := seek(longer, more-1, without(missed, casts[i], cast.covers)); found != nil {
				return found
			}
		}
		return nil
	}
	for many := range len(casts) {
		if found := seek(nil, many+1, places); found != nil {
			return found
		}
	}
	return nil
}
