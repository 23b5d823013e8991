package nets

import "drifter/api"

// hand is a knot beside the net, with the number after all of the net's own: where a piece ends, the twine goes there, and where it comes back, the next one begins.
func (t torn) hand() int { return t.Wide * t.High }

// withHand returns the torn bars, and one from each knot at which an odd number of them meet to the hand. Then an even number meets at each knot, and all that hang together can be run along in one go, back to where it began.
func (t torn) withHand() []api.NetsBar {
	list := t.Torn[:len(t.Torn):len(t.Torn)]
	for knot := range t.hand() {
		if t.meeting(knot)%2 == 1 {
			list = append(list, api.NetsBar{From: knot, To: t.hand()})
		}
	}
	return list
}

// meeting returns how many torn bars meet at a knot.
func (t torn) meeting(knot int) int {
	n := 0
	for _, bar := range t.Torn {
		if bar.From == knot || bar.To == knot {
			n++
		}
	}
	return n
}

// mend returns the fewest pieces that mend the net.
func (t torn) mend() [][]int {
	list := t.withHand()
	left := all(list)
	var way []int
	var spin func(knot int)
	spin = func(knot int) {
	next:
		for i, bar := range list {
			for _, run := range [...]api.NetsBar{bar, {From: bar.To, To: bar.From}} {
				if !left[i] {
					continue next
				}
				if run.From == knot {
					left[i] = false
					spin(run.To)
				}
			}
		}
		// only now, when nothing hangs on the knot any more: so each loop off the way is spun in where it leaves the way
		way = append(way, knot)
	}
	var pieces [][]int
	// from the hand first: a way that began elsewhere and came through the hand would begin and end amid a piece
	for start := t.hand(); left != (bars{}); start-- {
		way = nil
		spin(start)
		pieces = append(pieces, t.cut(way)...)
	}
	return pieces
}

// cut returns the parts of a way that are not in the hand.
func (t torn) cut(way []int) [][]int {
	var pieces [][]int
	var piece []int
	for _, knot := range append(way[:len(way):len(way)], t.hand()) {
		if knot != t.hand() {
			piece = append(piece, knot)
			continue
		}
		if len(piece) > 1 {
			pieces = append(pieces, piece)
		}
		piece = nil
	}
	return pieces
}
