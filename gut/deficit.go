package gut

import (
	"cmp"
	"slices"
)

// areLots reports whether a list is a strictly increasing one of numbers of lots.
func (d day) areLots(lots []int) bool {
	for i, lot := range lots {
		if !d.hasLot(lot) || i > 0 && lot <= lots[i-1] {
			return false
		}
	}
	return true
}

// deficit returns how many crans of some lots are more than can be taken of them.
func (d day) deficit(lots []int) int {
	return sum(d.crans, lots...) - sum(d.rate, slices.Collect(d.turns(lots...))...)
}

// sets produces all strictly increasing lists of lots.
func (d day) sets(yield func([]int) bool) {
	for bits := range 1 << len(d.Lots) {
		var lots []int
		for lot := range d.Lots {
			if bits>>lot&1 == 1 {
				lots = append(lots, lot)
			}
		}
		if !yield(lots[:len(lots):len(lots)]) {
			return
		}
	}
}

// proof returns the lots with the greatest deficit.
func (d day) proof() []int {
	var best []int
	most := 0
	for lots := range d.sets {
		n := d.deficit(lots)
		if cmp.Or(cmp.Compare(most, n), cmp.Compare(len(lots), len(best)), slices.Compare(lots, best)) < 0 {
			best, most = lots, n
		}
	}
	return best
}
