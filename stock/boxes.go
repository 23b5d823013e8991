package stock

import (
	"cmp"

	"drifter/api"
)

func areCells(l []api.StockCell) bool {
	for _, c := range l {
		if !areIn(0, api.StockSeen, c.Spawners, c.Landings) {
			return false
		}
	}
	return len(l) <= api.StockCells
}

// areBoxes reports whether boxes are such of so many cells.
func areBoxes(l [][]int, cells int) bool {
	for _, box := range l {
		before := -1
		for _, cell := range box {
			if !isIn(cell, before+1, cells-1) {
				return false
			}
			before = cell
		}
	}
	return len(l) <= api.StockBoxes
}

// closed is which cells some boxes close, and how many boxes these are.
type closed struct {
	cells [api.StockCells]bool
	many  int
}

// choice is some boxes, what they spare, and what is lost by them.
type choice struct {
	closed
	numbers      [api.StockBoxes]int
	spared, lost int
}

// isBetter reports whether a choice spares more than another one, or as much with a lesser loss, or with as much loss and fewer boxes.
func (c choice) isBetter(than choice) bool {
	return cmp.Or(cmp.Compare(c.spared, than.spared), cmp.Compare(than.lost, c.lost), cmp.Compare(than.many, c.many)) > 0
}

// sea is its cells, and the boxes that can be closed.
type sea struct {
	cells []api.StockCell
	boxes [][]int
}

// add returns a choice with a box more.
func (s sea) add(c choice, box int) choice {
	c.numbers[c.many] = box
	c.many++
	for _, cell := range s.boxes[box] {
		c.cells[cell] = true
	}
	var l []api.StockCell
	for cell, is := range c.cells {
		if is {
			l = append(l, s.cells[cell])
		}
	}
	c.spared = sum(func(x api.StockCell) int { return x.Spawners }, l...)
	c.lost = sum(func(x api.StockCell) int { return x.Landings }, l...)
	return c
}

// best returns the best choice of at most most boxes, of several the first one.
func (s sea) best(most int) choice {
	var best choice
	tried := map[closed]bool{}
	var goOn func(c choice, from int)
	goOn = func(c choice, from int) {
		// choices come in the order of their lists: an earlier one of as many boxes, that closes the same cells, is better however both go on
		if tried[c.closed] {
			return
		}
		tried[c.closed] = true
		if c.isBetter(best) {
			best = c
		}
		for box := from; box < len(s.boxes) && c.many < most; box++ {
			goOn(s.add(c, box), box+1)
		}
	}
	goOn(choice{}, 0)
	return best
}
