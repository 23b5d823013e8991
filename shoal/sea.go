package shoal

import (
	"iter"

	"drifter/api"
)

// place is a column and a row. It may lie outside the sea: water carries that far.
type place struct{ column, row int }

// distance is the greater one of the differences of the columns and of the rows.
func (p place) distance(q place) int {
	return greatest(p.column-q.column, q.column-p.column, p.row-q.row, q.row-p.row)
}

// sea is a valid sea, with what its reports ask of a place.
type sea struct {
	api.ShoalSea
	cells map[place]int        // the numbers of all cells that are not land
	asked [][]func(place) bool // hour by hour: whether each report of it is true of a place
}

// newSea checks a sea and its reports.
func newSea(s api.ShoalSea, l []api.ShoalReport) (*sea, api.Errno) {
	if !isSea(s) {
		return nil, api.ErrShoal
	}
	w := &sea{ShoalSea: s, cells: map[place]int{}, asked: make([][]func(place) bool, s.Hours)}
	if !w.areReports(l) {
		return nil, api.ErrShoalReport
	}
	for cell, at := range w.open {
		w.cells[at] = cell
	}
	for _, r := range l {
		w.asked[r.Hour] = append(w.asked[r.Hour], w.asks(r))
	}
	return w, api.OK
}

// newAsked checks, besides, how many reports may be false, and an hour.
func newAsked(s api.ShoalSea, l []api.ShoalReport, wrong, hour int) (*sea, api.Errno) {
	w, e := newSea(s, l)
	if e != api.OK {
		return nil, e
	}
	if !isIn(wrong, 0, api.ShoalReports) || !isIn(hour, 0, w.Hours-1) {
		return nil, api.ErrRange
	}
	return w, api.OK
}

func isSea(s api.ShoalSea) bool {
	return isIn(s.Wide, 1, api.ShoalWide) && isIn(s.High, 1, api.ShoalHigh) &&
		isIn(s.Speed, 0, api.ShoalSpeed) && isIn(s.Hours, 1, api.ShoalHours) &&
		isLand(s.Land, s.Wide*s.High) && isDrift(s.Drift, s.Hours-1)
}

// isLand reports whether land is strictly increasing, each number of it one of so many cells.
func isLand(land []int, cells int) bool {
	for i, cell := range land {
		if !isIn(cell, 0, cells-1) || i > 0 && cell <= land[i-1] {
			return false
		}
	}
	return true
}

func isDrift(drift []api.ShoalStep, steps int) bool {
	if len(drift) != steps {
		return false
	}
	for _, d := range drift {
		if !isIn(d.East, -api.ShoalDrift, api.ShoalDrift) || !isIn(d.North, -api.ShoalDrift, api.ShoalDrift) {
			return false
		}
	}
	return true
}

func (s *sea) place(cell int) place { return place{cell % s.Wide, cell / s.Wide} }

func (s *sea) isCell(cell int) bool { return isIn(cell, 0, s.Wide*s.High-1) }

// open produces all cells that are not land, increasing, with their places.
func (s *sea) open(yield func(int, place) bool) {
cells:
	for cell := range s.Wide * s.High {
		for _, land := range s.Land {
			if land == cell {
				continue cells
			}
		}
		if !yield(cell, s.place(cell)) {
			return
		}
	}
}

// reach produces all places, in the sea or not, to which the shoal can swim in an hour from a place, if the water carries it by a step.
func (s *sea) reach(from place, step api.ShoalStep) iter.Seq[place] {
	return func(yield func(place) bool) {
		for north := -s.Speed; north <= s.Speed; north++ {
			for east := -s.Speed; east <= s.Speed; east++ {
				if !yield(place{from.column + step.East + east, from.row + step.North + north}) {
					return
				}
			}
		}
	}
}

// swims reports whether the shoal can be in one place and, an hour later, in another one.
func (s *sea) swims(from, to place, step api.ShoalStep) bool {
	for at := range s.reach(from, step) {
		if at == to {
			return true
		}
	}
	return false
}

func (s *sea) isTrack(track []int) bool {
	if len(track) != s.Hours {
		return false
	}
	for hour, cell := range track {
		if !s.isCell(cell) {
			return false
		}
		at := s.place(cell)
		if _, isOpen := s.cells[at]; !isOpen {
			return false
		}
		if hour > 0 && !s.swims(s.place(track[hour-1]), at, s.Drift[hour-1]) {
			return false
		}
	}
	return true
}
