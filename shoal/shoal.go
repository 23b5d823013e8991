// Package shoal is layer 1: it seeks a shoal of herring by reports of which some may be false (see shared/doc/01-shoal.md).
package shoal

import "drifter/api"

// Check returns ErrShoal unless s is a valid sea.
func Check(s api.ShoalSea) api.Errno {
	if !isSea(s) {
		return api.ErrShoal
	}
	return api.OK
}

// IsTrack reports whether track is a track, and how many reports are false of it.
func IsTrack(s api.ShoalSea, l []api.ShoalReport, track []int) (untrue int, is bool, e api.Errno) {
	w, e := newSea(s, l)
	if e != api.OK {
		return 0, false, e
	}
	if !w.isTrack(track) {
		return 0, false, api.OK
	}
	for hour, cell := range track {
		untrue += w.untrue(hour, w.place(cell))
	}
	return untrue, true, api.OK
}

// Least returns the least number of reports that are false of a track, and the first such track.
func Least(s api.ShoalSea, l []api.ShoalReport) (untrue int, track []int, e api.Errno) {
	w, e := newSea(s, l)
	if e != api.OK {
		return 0, nil, e
	}
	c := w.chart()
	n := c.fewest()
	if n == never {
		return 0, nil, api.ErrNone
	}
	return n, c.first(n), api.OK
}

// Can returns all cells in which the shoal can be in an hour, if wrong reports may be false.
func Can(s api.ShoalSea, l []api.ShoalReport, wrong, hour int) ([]int, api.Errno) {
	w, e := newAsked(s, l, wrong, hour)
	if e != api.OK {
		return nil, e
	}
	cells := w.can(wrong, hour)
	if len(cells) == 0 {
		return nil, api.ErrShoalFalse
	}
	return cells, api.OK
}

// Liars returns all reports that are false of each track of which the fewest reports are false.
func Liars(s api.ShoalSea, l []api.ShoalReport) ([]int, api.Errno) {
	w, e := newSea(s, l)
	if e != api.OK {
		return nil, e
	}
	c := w.chart()
	n := c.fewest()
	if n == never {
		return nil, api.ErrNone
	}
	var liars []int
	for i, r := range l {
		if !c.canBeTrue(r, n) {
			liars = append(liars, i)
		}
	}
	return liars, api.OK
}

// Next returns the cast that leaves the fewest cells at worst, and how many these are.
func Next(s api.ShoalSea, l []api.ShoalReport, wrong, hour int, casts []api.ShoalCast) (which, worst int, e api.Errno) {
	places, placed, e := newSearch(s, l, wrong, hour, casts)
	if e != api.OK {
		return 0, 0, e
	}
	for i, c := range placed {
		n := c.worst(places)
		if i == 0 || n < worst {
			which, worst = i, n
		}
	}
	return which, worst, api.OK
}

// Sure returns the fewest casts that surely find the shoal.
func Sure(s api.ShoalSea, l []api.ShoalReport, wrong, hour int, casts []api.ShoalCast) ([]int, api.Errno) {
	places, placed, e := newSearch(s, l, wrong, hour, casts)
	if e != api.OK {
		return nil, e
	}
	chosen := fewestCasts(places, placed)
	if len(chosen) == 0 {
		return nil, api.ErrNone
	}
	return chosen, api.OK
}
