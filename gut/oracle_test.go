package gut_test

import (
	"math/rand/v2"
	"slices"

	"drifter/api"
)

// lows and highs return the heats that are the ends of their spans.
func lows(d api.GutDay) []int {
	var heats []int
	for _, s := range d.Heat {
		heats = append(heats, s.Low)
	}
	return heats
}

func highs(d api.GutDay) []int {
	var heats []int
	for _, s := range d.Heat {
		heats = append(heats, s.High)
	}
	return heats
}

// untilOf tries all hours, the last one first, until which a lot could keep with heats.
func untilOf(d api.GutDay, heats []int, lot int) int {
	l := d.Lots[lot]
	for hour := d.Hours - 1; hour >= l.Landed; hour-- {
		if total(heats[l.Landed:hour+1]) <= l.Keep {
			return hour
		}
	}
	return l.Landed - 1
}

// kinds returns the kinds that a set of them has.
func kinds(fit int) []int {
	return [][]int{{}, {0}, {1}, {0, 1}, {2}, {0, 2}, {1, 2}, {0, 1, 2}}[fit]
}

// spot is a worker in an hour.
type spot struct{ worker, hour int }

// takers returns, spot by spot, which lots are taken there with heats.
func takers(d api.GutDay, heats []int) map[spot][]int {
	all := map[spot][]int{}
	for lot, l := range d.Lots {
		until := untilOf(d, heats, lot)
		for worker, w := range d.Workers {
			for hour := max(l.Landed, w.From); hour <= min(until, w.To); hour++ {
				if slices.Contains(kinds(l.Fit), w.Kind) {
					all[spot{worker, hour}] = append(all[spot{worker, hour}], lot)
				}
			}
		}
	}
	return all
}

// allCrans returns how many crans all lots have.
func allCrans(d api.GutDay) int {
	n := 0
	for _, l := range d.Lots {
		n += l.Crans
	}
	return n
}

// isPlan counts the crans of a plan lot by lot and spot by spot; none of them is so many that they wrap around.
func isPlan(d api.GutDay, plan []api.GutTask) bool {
	all := takers(d, highs(d))
	lots, spots := map[int]int{}, map[spot]int{}
	for _, k := range plan {
		at := spot{k.Worker, k.Hour}
		if k.Crans < 1 || !slices.Contains(all[at], k.Lot) {
			return false
		}
		lots[k.Lot] += k.Crans
		spots[at] += k.Crans
	}
	for lot, n := range lots {
		if n > d.Lots[lot].Crans {
			return false
		}
	}
	for at, n := range spots {
		if n > d.Workers[at.worker].Rate {
			return false
		}
	}
	return len(plan) <= 400
}

// taken returns how many crans a plan takes.
func taken(plan []api.GutTask) int {
	n := 0
	for _, k := range plan {
		n += k.Crans
	}
	return n
}

// fewest gives each spot in turn any crans that it can take, and returns how few crans are left at last.
func fewest(d api.GutDay, heats []int) int {
	var first [api.GutLots]int
	for lot, l := range d.Lots {
		first[lot] = l.Crans
	}
	left := map[[api.GutLots]int]bool{first: true}
	for at, lots := range takers(d, heats) {
		next := map[[api.GutLots]int]bool{}
		var give func(crans [api.GutLots]int, lots []int, rate int)
		give = func(crans [api.GutLots]int, lots []int, rate int) {
			if len(lots) == 0 {
				next[crans] = true
				return
			}
			for n := range min(rate, crans[lots[0]]) + 1 {
				less := crans
				less[lots[0]] -= n
				give(less, lots[1:], rate-n)
			}
		}
		for crans := range left {
			give(crans, lots, d.Workers[at.worker].Rate)
		}
		left = next
	}
	best := allCrans(d)
	for crans := range left {
		best = min(best, total(crans[:]))
	}
	return best
}

// deficitOf goes through all spots, and counts those that can take some of the lots.
func deficitOf(d api.GutDay, heats []int, lots []int) int {
	n := 0
	for _, lot := range lots {
		n += d.Lots[lot].Crans
	}
	for at, can := range takers(d, heats) {
		if slices.ContainsFunc(can, func(lot int) bool { return slices.Contains(lots, lot) }) {
			n -= d.Workers[at.worker].Rate
		}
	}
	return n
}

// allLists returns all strictly increasing lists of numbers below n, those of fewer numbers first, of as many the first one first.
func allLists(n int) [][]int {
	all := [][]int{nil}
	for i := 0; i < len(all); i++ {
		from := 0
		if l := all[i]; len(l) > 0 {
			from = l[len(l)-1] + 1
		}
		for k := from; k < n; k++ {
			all = append(all, append(slices.Clone(all[i]), k))
		}
	}
	return all
}

// proofOf returns the first one of all lists of lots with the greatest deficit, and this.
func proofOf(d api.GutDay, heats []int) (lots []int, deficit int) {
	for _, l := range allLists(len(d.Lots)) {
		if n := deficitOf(d, heats, l); n > deficit {
			lots, deficit = l, n
		}
	}
	return lots, deficit
}

func total(l []int) int {
	n := 0
	for _, x := range l {
		n += x
	}
	return n
}

func between(r *rand.Rand, low, high int) int { return low + r.IntN(high-low+1) }

// size is how great everything of a day can be, at most.
type size struct{ hours, heat, lots, crans, workers, rate int }

var (
	small = size{hours: 4, heat: 4, lots: 3, crans: 6, workers: 2, rate: 3}
	whole = size{hours: 24, heat: 100, lots: 8, crans: 50, workers: 6, rate: 8}
)

func anyWorker(r *rand.Rand, hours, rate int) api.GutWorker {
	from := r.IntN(hours)
	return api.GutWorker{Kind: r.IntN(3), From: from, To: between(r, from, hours-1), Rate: between(r, 0, rate)}
}

// anyLot returns a lot that keeps through a part of a day of such heats.
func anyLot(r *rand.Rand, hours, heat, crans int) api.GutLot {
	return api.GutLot{Crans: between(r, 1, crans), Landed: r.IntN(hours), Keep: between(r, 0, hours*heat*2/3), Fit: between(r, 0, 7)}
}

// anyDay returns a valid day of a size.
func anyDay(r *rand.Rand, z size) api.GutDay {
	d := api.GutDay{Hours: between(r, 1, z.hours)}
	for range d.Hours {
		low := between(r, 0, z.heat)
		d.Heat = append(d.Heat, api.Span{Low: low, High: between(r, low, z.heat)})
	}
	for range between(r, 0, z.lots) {
		d.Lots = append(d.Lots, anyLot(r, d.Hours, z.heat, z.crans))
	}
	for range between(r, 0, z.workers) {
		d.Workers = append(d.Workers, anyWorker(r, d.Hours, z.rate))
	}
	return d
}

// each calls f with many days, the same ones each time; every third one is as great as a day can be.
func each(many int, f func(r *rand.Rand, d api.GutDay)) {
	r := rand.New(rand.NewPCG(5, 1))
	for i := range many {
		if i%3 == 0 {
			f(r, anyDay(r, whole))
		} else {
			f(r, anyDay(r, small))
		}
	}
}

// anyHeats returns heats within the spans of a day.
func anyHeats(r *rand.Rand, d api.GutDay) []int {
	var heats []int
	for _, s := range d.Heat {
		heats = append(heats, between(r, s.Low, s.High))
	}
	return heats
}

// anyPlan puts crans of lots to spots that take them as long as there is room, some here and some there: it is a plan, but seldom a good one.
func anyPlan(r *rand.Rand, d api.GutDay) []api.GutTask {
	var all []api.GutTask
	for at, lots := range takers(d, highs(d)) {
		for _, lot := range lots {
			all = append(all, api.GutTask{Lot: lot, Worker: at.worker, Hour: at.hour})
		}
	}
	slices.SortFunc(all, func(a, b api.GutTask) int { // a map comes in any order
		return slices.Compare([]int{a.Lot, a.Worker, a.Hour}, []int{b.Lot, b.Worker, b.Hour})
	})
	r.Shuffle(len(all), func(i, k int) { all[i], all[k] = all[k], all[i] })
	var plan []api.GutTask
	lots, spots := map[int]int{}, map[spot]int{}
	for _, k := range all {
		at := spot{k.Worker, k.Hour}
		room := min(d.Lots[k.Lot].Crans-lots[k.Lot], d.Workers[k.Worker].Rate-spots[at])
		if room > 0 && r.IntN(4) > 0 {
			k.Crans = between(r, 1, room)
			lots[k.Lot] += k.Crans
			spots[at] += k.Crans
			plan = append(plan, k)
		}
	}
	return plan
}

// deep is a copy of a day that shares no memory with it.
func deep(d api.GutDay) api.GutDay {
	d.Heat, d.Lots, d.Workers = slices.Clone(d.Heat), slices.Clone(d.Lots), slices.Clone(d.Workers)
	return d
}
