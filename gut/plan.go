package gut

import "drifter/api"

// isPlan reports whether a plan is one, and what it loses.
func (d day) isPlan(plan []api.GutTask) (lost int, is bool) {
	if len(plan) > api.GutTasks {
		return 0, false
	}
	var taken [api.GutLots]int
	used := map[turn]int{}
	for _, k := range plan {
		t := turn{k.Worker, k.Hour}
		if !d.hasLot(k.Lot) || !d.hasWorker(k.Worker) || !(post{d, t}).canTake(k.Lot) {
			return 0, false
		}
		// held against what is left, and not added first: so many crans can be told that a sum would wrap around
		if !isIn(k.Crans, 1, min(d.crans(k.Lot)-taken[k.Lot], d.rate(t)-used[t])) {
			return 0, false
		}
		taken[k.Lot] += k.Crans
		used[t] += k.Crans
	}
	return d.lost(plan), true
}

// lost returns what a plan loses.
func (d day) lost(plan []api.GutTask) int {
	return d.allCrans() - sum(func(k api.GutTask) int { return k.Crans }, plan...)
}

// task is a lot that is taken in a turn.
type task struct {
	lot int
	turn
}

// take has as many crans taken as can be, and returns how many each task takes.
func (d day) take() map[task]int {
	took := map[task]int{}
	used := map[turn]int{}
	var asked [api.GutLots]bool
	// move brings a cran of a lot from one turn to another one. Where that is full, a cran of a lot that was not asked yet makes room for it.
	var move func(lot int, from turn) bool
	move = func(lot int, from turn) bool {
		asked[lot] = true
		for t := range d.turns(lot) {
			if t == from {
				continue
			}
			if used[t] < d.rate(t) {
				used[t]++
				took[task{lot, t}]++
				return true
			}
			for other := range d.Lots {
				if took[task{other, t}] > 0 && !asked[other] && move(other, t) {
					took[task{other, t}]--
					took[task{lot, t}]++
					return true
				}
			}
		}
		return false
	}
	quay := turn{-1, -1} // where a cran is that nobody takes yet
	for lot := range d.Lots {
		for range d.crans(lot) {
			asked = [api.GutLots]bool{}
			// where a cran finds no way, the next one of the same lot finds none either
			if !move(lot, quay) {
				break
			}
		}
	}
	return took
}

// best returns a plan that loses as few crans as any.
func (d day) best() []api.GutTask {
	var plan []api.GutTask
	took := d.take()
	for lot := range d.Lots {
		for t := range d.turns(lot) {
			if n := took[task{lot, t}]; n > 0 {
				plan = append(plan, api.GutTask{Lot: lot, Worker: t.worker, Hour: t.hour, Crans: n})
			}
		}
	}
	return plan[:len(plan):len(plan)]
}

// fewest returns how few crans can be lost.
func (d day) fewest() int { return d.lost(d.best()) }

// told returns between what the fewest crans lie that are lost.
func (d day) told() api.Span {
	surely, best := d.fewest(), d.atBest()
	if best.until == d.until {
		return api.Span{Low: surely, High: surely}
	}
	return api.Span{Low: best.fewest(), High: surely}
}

// help returns the worker with whom the fewest crans are lost, and how many are lost then.
func (d day) help(l []api.GutWorker) (which, lost int) {
	lost = d.allCrans() + 1
	for i, w := range l {
		if n := d.with(w).fewest(); n < lost {
			which, lost = i, n
		}
	}
	return which, lost
}
