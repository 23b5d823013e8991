package gut

import (
	"iter"
	"slices"

	"drifter/api"
)

// untils is, lot by lot, the hour until which it keeps.
type untils [api.GutLots]int

// day is a valid day, and until which hour each of its lots keeps.
type day struct {
	api.GutDay
	end   func(heat api.Span) int // the end of a span that the heat is taken for
	until untils
}

// newDay checks a day. Its lots keep as long as they surely do.
func newDay(d api.GutDay) (day, api.Errno) {
	if !isDay(d) {
		return day{}, api.ErrGut
	}
	return dayWith(d, hottest), api.OK
}

func hottest(heat api.Span) int { return heat.High }

func coldest(heat api.Span) int { return heat.Low }

// dayWith returns a day of which each heat is an end of its span.
func dayWith(d api.GutDay, end func(api.Span) int) day {
	w := day{GutDay: d, end: end}
	for lot := range d.Lots {
		w.until[lot] = w.keepsUntil(lot)
	}
	return w
}

// atBest returns the same day with lots that keep as long as they can at best.
func (d day) atBest() day { return dayWith(d.GutDay, coldest) }

// with returns the same day with a worker more.
func (d day) with(w api.GutWorker) day {
	n := len(d.Workers)
	d.Workers = append(d.Workers[:n:n], w)
	return d
}

func isDay(d api.GutDay) bool {
	if !isIn(d.Hours, 1, api.GutHours) || len(d.Heat) != d.Hours || len(d.Lots) > api.GutLots || len(d.Workers) > api.GutWorkers {
		return false
	}
	for _, heat := range d.Heat {
		if heat.Low < 0 || heat.Low > heat.High || heat.High > api.GutHeat {
			return false
		}
	}
	for _, l := range d.Lots {
		if !isLot(l, d.Hours) {
			return false
		}
	}
	return areWorkers(d.Workers, d.Hours)
}

func isLot(l api.GutLot, hours int) bool {
	const everyKind = 1<<api.GutCrew | 1<<api.GutKiln | 1<<api.GutKlondyke
	return isIn(l.Crans, 1, api.GutCrans) && isIn(l.Landed, 0, hours-1) &&
		isIn(l.Keep, 0, api.GutKeep) && isIn(l.Fit, 0, everyKind)
}

// areWorkers reports whether all workers are valid ones of a day of so many hours.
func areWorkers(l []api.GutWorker, hours int) bool {
	for _, w := range l {
		if !isIn(w.Kind, api.GutCrew, api.GutKlondyke) || !isIn(w.From, 0, w.To) || w.To >= hours || !isIn(w.Rate, 0, api.GutRate) {
			return false
		}
	}
	return true
}

// keepsUntil returns the last hour before the heats are together more than what a lot keeps through.
func (d day) keepsUntil(lot int) int {
	hour, left := d.Lots[lot].Landed, d.Lots[lot].Keep
	for ; hour < d.Hours; hour++ {
		left -= d.end(d.Heat[hour])
		if left < 0 {
			break
		}
	}
	return hour - 1
}

func (d day) hasLot(lot int) bool { return isIn(lot, 0, len(d.Lots)-1) }

func (d day) hasWorker(worker int) bool { return isIn(worker, 0, len(d.Workers)-1) }

func (d day) crans(lot int) int { return d.Lots[lot].Crans }

// allCrans returns how many crans all lots have.
func (d day) allCrans() int {
	return sum(func(l api.GutLot) int { return l.Crans }, d.Lots...)
}

// turn is a worker in an hour.
type turn struct{ worker, hour int }

// rate returns how many crans are taken in a turn, at most.
func (d day) rate(t turn) int { return d.Workers[t.worker].Rate }

// post is a turn of a day.
type post struct {
	day
	turn
}

// canTake reports whether the worker can take a lot in the hour.
func (p post) canTake(lot int) bool {
	l, w := p.Lots[lot], p.Workers[p.worker]
	return l.Fit>>w.Kind&1 == 1 && isIn(p.hour, w.From, w.To) && isIn(p.hour, l.Landed, p.until[lot])
}

// turns returns what produces, once each, all turns in which some of these lots can be taken, worker by worker.
func (d day) turns(lots ...int) iter.Seq[turn] {
	return func(yield func(turn) bool) {
		for worker := range len(d.Workers) {
		hours:
			for hour := range d.Hours {
				t := turn{worker, hour}
				if !slices.ContainsFunc(lots, post{d, t}.canTake) {
					continue hours
				}
				if !yield(t) {
					return
				}
			}
		}
	}
}
