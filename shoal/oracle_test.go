package shoal_test

import (
	"math/rand/v2"
	"slices"

	"drifter/api"
	"drifter/shoal"
)

// This file says by enumeration what the document says in words; it shares no code with the package.

func abs(n int) int { return max(n, -n) }

func distance(s api.ShoalSea, a, b int) int {
	return max(abs(a%s.Wide-b%s.Wide), abs(a/s.Wide-b/s.Wide))
}

func isOpen(s api.ShoalSea, cell int) bool { return !slices.Contains(s.Land, cell) }

func canFollow(s api.ShoalSea, hour, from, to int) bool {
	d := s.Drift[hour]
	return abs(to%s.Wide-(from%s.Wide+d.East)) <= s.Speed && abs(to/s.Wide-(from/s.Wide+d.North)) <= s.Speed
}

// tracks returns all tracks, in their order.
func tracks(s api.ShoalSea) [][]int {
	all := [][]int{nil}
	for hour := range s.Hours {
		var longer [][]int
		for _, t := range all {
			for cell := range s.Wide * s.High {
				if isOpen(s, cell) && (hour == 0 || canFollow(s, hour-1, t[hour-1], cell)) {
					longer = append(longer, append(slices.Clone(t), cell))
				}
			}
		}
		all = longer
	}
	return all
}

func isFalse(s api.ShoalSea, r api.ShoalReport, track []int) bool {
	near := distance(s, r.Cell, track[r.Hour]) <= r.Far
	return near != r.There
}

func falseOf(s api.ShoalSea, l []api.ShoalReport, track []int) int {
	n := 0
	for _, r := range l {
		if isFalse(s, r, track) {
			n++
		}
	}
	return n
}

// best returns the least number of false reports (-1 if there is no track), and all tracks that have it.
func best(s api.ShoalSea, l []api.ShoalReport, all [][]int) (int, [][]int) {
	n := -1
	var those [][]int
	for _, t := range all {
		switch f := falseOf(s, l, t); {
		case n < 0 || f < n:
			n, those = f, [][]int{t}
		case f == n:
			those = append(those, t)
		}
	}
	return n, those
}

func cellsOf(s api.ShoalSea, l []api.ShoalReport, all [][]int, wrong, hour int) []int {
	var cells []int
	for _, t := range all {
		if falseOf(s, l, t) <= wrong && !slices.Contains(cells, t[hour]) {
			cells = append(cells, t[hour])
		}
	}
	slices.Sort(cells)
	return cells
}

func liarsOf(s api.ShoalSea, l []api.ShoalReport, those [][]int) []int {
	var liars []int
	for i, r := range l {
		if !slices.ContainsFunc(those, func(t []int) bool { return !isFalse(s, r, t) }) {
			liars = append(liars, i)
		}
	}
	return liars
}

func covered(s api.ShoalSea, c api.ShoalCast, cells []int) int {
	n := 0
	for _, cell := range cells {
		if distance(s, c.Cell, cell) <= c.Far {
			n++
		}
	}
	return n
}

// sureOf tries all sets of casts.
func sureOf(s api.ShoalSea, casts []api.ShoalCast, cells []int) []int {
	var fewest []int
	for set := range 1 << len(casts) {
		var chosen []int
		for i := range casts {
			if set>>i&1 == 1 {
				chosen = append(chosen, i)
			}
		}
		finds := func(cell int) bool {
			return slices.ContainsFunc(chosen, func(i int) bool { return distance(s, casts[i].Cell, cell) <= casts[i].Far })
		}
		if slices.ContainsFunc(cells, func(cell int) bool { return !finds(cell) }) {
			continue
		}
		if fewest == nil || len(chosen) < len(fewest) || len(chosen) == len(fewest) && slices.Compare(chosen, fewest) < 0 {
			fewest = chosen
		}
	}
	return fewest
}

func between(r *rand.Rand, low, high int) int { return low + r.IntN(high-low+1) }

// anySea returns a sea small enough for all its tracks to be listed.
func anySea(r *rand.Rand) api.ShoalSea {
	s := api.ShoalSea{Wide: between(r, 1, 4), High: between(r, 1, 3), Hours: between(r, 1, 4), Speed: between(r, 0, 2)}
	if s.Speed == 2 {
		s.Hours = min(s.Hours, 3)
	}
	for cell := range s.Wide * s.High {
		if r.IntN(5) == 0 {
			s.Land = append(s.Land, cell)
		}
	}
	for range s.Hours - 1 {
		if d := len(s.Drift); d > 0 && r.IntN(2) == 0 {
			s.Drift = append(s.Drift, s.Drift[d-1])
		} else {
			s.Drift = append(s.Drift, api.ShoalStep{East: between(r, -1, 1), North: between(r, -1, 1)})
		}
	}
	if r.IntN(4) == 0 && s.Hours > 1 {
		s.Drift[0] = api.ShoalStep{East: between(r, -2, 2), North: between(r, -2, 2)}
	}
	return s
}

func anyReports(r *rand.Rand, s api.ShoalSea, most int) []api.ShoalReport {
	var l []api.ShoalReport
	for range r.IntN(most + 1) {
		l = append(l, api.ShoalReport{Hour: r.IntN(s.Hours), Cell: r.IntN(s.Wide * s.High), Far: r.IntN(3), There: r.IntN(3) > 0})
	}
	return l
}

func anyCasts(r *rand.Rand, s api.ShoalSea) []api.ShoalCast {
	var l []api.ShoalCast
	for range between(r, 1, api.ShoalCasts) {
		l = append(l, api.ShoalCast{Cell: r.IntN(s.Wide * s.High), Far: r.IntN(3)})
	}
	return l
}

// each calls f with many seas, the same ones each time.
func each(many int, f func(r *rand.Rand, s api.ShoalSea, l []api.ShoalReport)) {
	r := rand.New(rand.NewPCG(1, 18))
	for range many {
		s := anySea(r)
		f(r, s, anyReports(r, s, 8))
	}
}

// can is Can without its error: where it cannot be at all, there is no cell.
func can(s api.ShoalSea, l []api.ShoalReport, wrong, hour int) []int {
	cells, _ := shoal.Can(s, l, wrong, hour)
	return cells
}

// isPart reports whether all numbers of one list are in another.
func isPart(part, whole []int) bool {
	return !slices.ContainsFunc(part, func(n int) bool { return !slices.Contains(whole, n) })
}
