package shoal

import "drifter/api"

// report is a report, with the place of its cell.
type report struct {
	api.ShoalReport
	at place
}

// isTrue reports whether the report is true of a shoal that is in a place in the report's hour.
func (r report) isTrue(shoal place) bool {
	return r.There == (r.at.distance(shoal) <= r.Far)
}

func (s *sea) areReports(l []api.ShoalReport) bool {
	if len(l) > api.ShoalReports {
		return false
	}
	for _, r := range l {
		if !isIn(r.Hour, 0, s.Hours-1) || !s.isCell(r.Cell) || !isIn(r.Far, 0, api.ShoalFar) {
			return false
		}
	}
	return true
}

// asks returns what a report asks of a place.
func (s *sea) asks(r api.ShoalReport) func(place) bool {
	return report{r, s.place(r.Cell)}.isTrue
}

// untrue returns how many reports of an hour are false of a place.
func (s *sea) untrue(hour int, at place) int {
	n := 0
	for _, isTrue := range s.asked[hour] {
		if !isTrue(at) {
			n++
		}
	}
	return n
}
