package nets

import "drifter/api"

// torn is a valid torn net, with the numbers of its torn bars.
type torn struct {
	api.NetsTorn
	numbers map[api.NetsBar]int
}

// mostBars is how many bars a net has at most, and, besides, one from each knot to the hand.
const mostBars = 2*api.NetsKnots*(api.NetsKnots-1) + api.NetsKnots*api.NetsKnots

// bars is which of all bars are left, by their numbers.
type bars [mostBars]bool

func newTorn(t api.NetsTorn) (torn, api.Errno) {
	if !isIn(t.Wide, 2, api.NetsKnots) || !isIn(t.High, 2, api.NetsKnots) ||
		!isIn(t.Mesh, 1, api.NetsMesh) || !isIn(t.Knot, 0, api.NetsMesh) {
		return torn{}, api.ErrNetsTorn
	}
	w := torn{t, map[api.NetsBar]int{}}
	for i, bar := range t.Torn {
		if _, twice := w.numbers[bar]; twice || !w.isBar(bar) {
			return torn{}, api.ErrNetsTorn
		}
		w.numbers[bar] = i
	}
	return w, api.OK
}

// isBar reports whether a bar joins a knot of the net to the next one of its row, or to the one below.
func (t torn) isBar(bar api.NetsBar) bool {
	last := t.Wide*t.High - 1
	if !isIn(bar.From, 0, last) || !isIn(bar.To, 0, last) {
		return false
	}
	next := api.NetsBar{From: bar.From, To: bar.From + 1}
	below := api.NetsBar{From: bar.From, To: bar.From + t.Wide}
	return bar == below || bar == next && bar.To%t.Wide != 0
}

// twine returns the twine of so many pieces that mend the net.
func (t torn) twine(pieces int) int { return t.Mesh*len(t.Torn) + t.Knot*2*pieces }

func (t torn) isMend(pieces [][]int) bool {
	left := all(t.Torn)
	for _, piece := range pieces {
		if len(piece) < 2 {
			return false
		}
		for i, knot := range piece[1:] {
			number, is := t.numbers[between(piece[i], knot)]
			if !is || !left[number] {
				return false
			}
			left[number] = false
		}
	}
	return left == bars{}
}

// all returns that all bars of a list are left.
func all(list []api.NetsBar) bars {
	var left bars
	for i := range list {
		left[i] = true
	}
	return left
}

// between returns the bar between two knots, in whichever order.
func between(knot, other int) api.NetsBar {
	from, to := ends(knot, other)
	return api.NetsBar{From: from, To: to}
}
