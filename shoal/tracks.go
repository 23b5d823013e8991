package shoal

import "drifter/api"

// counts is, cell by cell, how many reports are false.
type counts [api.ShoalWide * api.ShoalHigh]int

// never is more than all reports: no track has the cell.
const never = api.ShoalReports + 1

// way is a way from hour to hour, forth or back.
type way struct {
	hour func(i int) int           // the hour that comes as number i
	step func(i int) api.ShoalStep // how water would carry the shoal from the hour that comes as number i to the one that came before it
}

func (s *sea) forth() way {
	return way{
		hour: func(i int) int { return i },
		step: func(i int) api.ShoalStep { return against(s.Drift[i-1]) },
	}
}

func (s *sea) back() way {
	last := s.Hours - 1
	return way{
		hour: func(i int) int { return last - i },
		step: func(i int) api.ShoalStep { return s.Drift[last-i] },
	}
}

func against(d api.ShoalStep) api.ShoalStep { return api.ShoalStep{East: -d.East, North: -d.North} }

// chart has, for each hour, how many reports are false, cell by cell: of the hour itself, and of all hours up to it, or from it on, on the best track to this cell, or from it.
type chart struct {
	*sea
	own, upTo, from []counts
}

func (s *sea) chart() chart {
	own := make([]counts, s.Hours)
	for hour := range s.Hours {
		own[hour] = s.counts(hour)
	}
	return chart{s, own, s.walk(own, s.forth()), s.walk(own, s.back())}
}

// counts returns how many reports of an hour are false.
func (s *sea) counts(hour int) counts {
	var l counts
	for cell := range l {
		l[cell] = never
	}
	for cell, at := range s.open {
		l[cell] = s.untrue(hour, at)
	}
	return l
}

// walk adds up what the hours have of their own, on the best track of those that lead to each cell.
func (s *sea) walk(own []counts, y way) []counts {
	l := make([]counts, s.Hours)
	start := y.hour(0)
	l[start] = own[start]
	for i := 1; i < s.Hours; i++ {
		hour, before, step := y.hour(i), y.hour(i-1), y.step(i)
		// An hour depends only on the step, on its own counts and on the hour before: if these are as they were, it is as that was.
		if i > 1 && step == y.step(i-1) && own[hour] == own[before] && l[before] == l[y.hour(i-2)] {
			l[hour] = l[before]
			continue
		}
		l[hour] = s.next(l[before], own[hour], step)
	}
	return l
}

// next adds what an hour has of its own to the least number of the cells from which each cell is reached.
func (s *sea) next(before, own counts, step api.ShoalStep) counts {
	for cell, at := range s.open {
		n := never
		for from := range s.reach(at, step) {
			if f, isOpen := s.cells[from]; isOpen {
				n = least(n, before[f])
			}
		}
		own[cell] = least(never, n+own[cell])
	}
	return own
}

// through returns how many reports are false at least of the tracks that have a cell in an hour.
func (c chart) through(hour, cell int) int {
	// both of them count what the hour has of its own
	return least(never, c.upTo[hour][cell]+c.from[hour][cell]-c.own[hour][cell])
}

// fewest returns how many reports are false at least of all tracks.
func (c chart) fewest() int { return least(never, c.from[0][:]...) }

// first returns the first track of which n reports, the least number, are false.
func (c chart) first(n int) []int {
	track := make([]int, 0, c.Hours)
	for hour := range c.Hours {
		for cell, at := range c.open {
			if c.from[hour][cell] == n && c.follows(track[:len(track):len(track)], at) {
				track = append(track, cell)
				n -= c.own[hour][cell]
				break
			}
		}
	}
	return track
}

// follows reports whether a place can come next on a track that has begun.
func (c chart) follows(begun []int, at place) bool {
	hours := len(begun)
	return hours == 0 || c.swims(c.place(begun[hours-1]), at, c.Drift[hours-1])
}

// can returns all cells in which the shoal can be in an hour, if wrong reports may be false.
func (s *sea) can(wrong, hour int) []int {
	c := s.chart()
	var cells []int
	for cell := range c.open {
		if c.through(hour, cell) <= wrong {
			cells = append(cells, cell)
		}
	}
	return cells
}

// canBeTrue reports whether a report is true of a track of which n reports, the least number, are false.
func (c chart) canBeTrue(r api.ShoalReport, n int) bool {
	isTrue := c.asks(r)
	for cell, at := range c.open {
		if c.through(r.Hour, cell) == n && isTrue(at) {
			return true
		}
	}
	return false
}
