package stock_test

import (
	"math/rand/v2"
	"slices"

	"drifter/api"
)

func between(r *rand.Rand, low, high int) int { return low + r.IntN(high-low+1) }

func to(low, high int) api.Span { return api.Span{Low: low, High: high} }

// group is so many fish whose age lies between two numbers.
func group(seen, low, high int) api.StockScale { return api.StockScale{Seen: seen, Age: to(low, high)} }

func cell(spawners, landings int) api.StockCell {
	return api.StockCell{Spawners: spawners, Landings: landings}
}

// anySpan returns a span from 0 to most, often a short one.
func anySpan(r *rand.Rand, most int) api.Span {
	low := between(r, 0, most)
	if r.IntN(2) == 0 {
		return to(low, between(r, low, min(most, low+2)))
	}
	return to(low, between(r, low, most))
}

func anyScales(r *rand.Rand, groups, seen, age int) []api.StockScale {
	var l []api.StockScale
	for range between(r, 0, groups) {
		l = append(l, api.StockScale{Seen: between(r, 0, seen), Age: anySpan(r, age)})
	}
	return l
}

// truths calls back with all ages that the fish of some groups can have, fish by fish.
func truths(l []api.StockScale, back func(ages []int)) {
	var fish []api.Span
	for _, s := range l {
		for range s.Seen {
			fish = append(fish, s.Age)
		}
	}
	ages := make([]int, len(fish))
	var goOn func(number int)
	goOn = func(number int) {
		if number == len(fish) {
			back(ages)
			return
		}
		for age := fish[number].Low; age <= fish[number].High; age++ {
			ages[number] = age
			goOn(number + 1)
		}
	}
	goOn(0)
}

// counted returns how many ages are from one to another.
func counted(ages []int, from, to int) int {
	n := 0
	for _, age := range ages {
		if age >= from && age <= to {
			n++
		}
	}
	return n
}

// agrees holds a mixing to the chapter's words.
func agrees(mixing []int, races [][]api.Span, seen []api.Span) bool {
	for sign := range seen {
		low, high, all := 0, 0, 0
		for race, n := range mixing {
			low += n * races[race][sign].Low
			high += n * races[race][sign].High
			all += n
		}
		if low > 100*seen[sign].High || high < 100*seen[sign].Low || all != 100 {
			return false
		}
	}
	return true
}

// mixings returns all mixings of so many races that agree: each number of each race is tried.
func mixings(races [][]api.Span, seen []api.Span) (all [][]int) {
	lists(len(races), 100, func(l []int) {
		if agrees(l, races, seen) {
			all = append(all, slices.Clone(l))
		}
	})
	return all
}

// lists calls back with all lists of so many whole numbers that are not below 0, and not more than total together.
func lists(many, total int, back func(l []int)) {
	l := make([]int, many)
	var goOn func(i, left int)
	goOn = func(i, left int) {
		if i == many {
			back(l)
			return
		}
		for l[i] = left; l[i] >= 0; l[i]-- {
			goOn(i+1, left-l[i])
		}
		l[i] = 0
	}
	goOn(0, total)
}

// hull returns between what lies each number of some lists.
func hull(all [][]int) []api.Span {
	var l []api.Span
	for i := range all[0] {
		s := to(all[0][i], all[0][i])
		for _, x := range all {
			s = to(min(s.Low, x[i]), max(s.High, x[i]))
		}
		l = append(l, s)
	}
	return l
}

// lived returns the spawners of each year of a race; the fish are caught one by one.
func lived(r api.StockRace, takes, recruits []int) []int {
	fish := slices.Clone(r.Numbers)
	last := len(fish) - 1
	var l []int
	for year, take := range takes {
		for age := last; take > 0 && age >= r.Mesh; {
			if fish[age] == 0 {
				age--
				continue
			}
			fish[age]--
			take--
		}
		spawners, next := 0, make([]int, len(fish)+1)
		for age, n := range fish {
			spawners += n * r.Spawn[age]
			next[age+1] = n * r.Keep[age] / 1000
		}
		next[last] += next[last+1]
		next[0] += recruits[year]
		fish = next[:last+1]
		l = append(l, spawners)
	}
	return l
}

// breach is where a race breaks.
type breach struct{ race, season, year int }

// takesOf returns the take of a race with a quota, found by adding.
func takesOf(f api.StockFishery, race, quota int) []int {
	take := 0
	for take*100 < quota*f.Most[race] {
		take++
	}
	return slices.Repeat([]int{take}, len(f.Seasons[0][0]))
}

// broken returns where races break with a quota, by the years, of these by the races, of these by the seasons.
func broken(f api.StockFishery, quota int) []breach {
	var l []breach
	for race, r := range f.Races {
		takes := takesOf(f, race, quota)
		for season, recruits := range f.Seasons {
			for year, n := range lived(r, takes, recruits[race]) {
				if n < r.Line {
					l = append(l, breach{race, season, year})
				}
			}
		}
	}
	slices.SortFunc(l, func(b, o breach) int {
		return slices.Compare([]int{b.year, b.race, b.season}, []int{o.year, o.race, o.season})
	})
	return l
}

// quotaOf returns the greatest quota of a fishery, or -1: it is that of the race whose greatest take is reached first.
func quotaOf(f api.StockFishery) int {
	quota := 10000
	for race, r := range f.Races {
		take := greatestTake(f, race)
		if take < 0 {
			return -1
		}
		if f.Most[race] > 0 && take < fishOf(r, f.Seasons, race) {
			quota = min(quota, take*100/f.Most[race])
		}
	}
	return quota
}

// fishOf returns how many fish a race has ever, at most.
func fishOf(r api.StockRace, seasons [][][]int, race int) int {
	most := 0
	for _, season := range seasons {
		n := 0
		for _, l := range [][]int{r.Numbers, season[race]} {
			for _, x := range l {
				n += x
			}
		}
		most = max(most, n)
	}
	return most
}

// greatestTake returns the greatest take, up to all fish, with which a race breaks in no season; or -1.
func greatestTake(f api.StockFishery, race int) int {
	r := f.Races[race]
	all := fishOf(r, f.Seasons, race)
	for take := range all + 1 {
		for _, season := range f.Seasons {
			if slices.Min(lived(r, slices.Repeat([]int{take}, len(season[race])), season[race])) < r.Line {
				return take - 1
			}
		}
	}
	return all
}

func numbers(r *rand.Rand, many, low, high int) []int {
	l := make([]int, many)
	for i := range l {
		l[i] = between(r, low, high)
	}
	return l
}

// anyRace returns a race with so many fish of an age at most.
func anyRace(r *rand.Rand, ages, most int) api.StockRace {
	x := api.StockRace{Numbers: numbers(r, ages, 0, most), Keep: numbers(r, ages, 300, 1000), Spawn: numbers(r, ages, 0, 3), Mesh: r.IntN(ages)}
	if r.IntN(2) == 0 {
		x.Mesh = 0
	}
	if r.IntN(8) == 0 {
		x.Keep[r.IntN(ages)] = 0
	}
	return x
}

// anyFishery returns a fishery whose races have so many fish of an age at most; the lines are most often such that some quotas hold.
func anyFishery(r *rand.Rand, most int) api.StockFishery {
	f := api.StockFishery{}
	races, years, seasons := between(r, 1, 3), between(r, 1, 10), between(r, 1, 6)
	for range seasons {
		var season [][]int
		for range races {
			season = append(season, numbers(r, years, 0, most*r.IntN(2)))
		}
		f.Seasons = append(f.Seasons, season)
	}
	for race := range races {
		x := anyRace(r, between(r, 1, 6), most)
		least := 100000000
		for _, season := range f.Seasons {
			least = min(least, slices.Min(lived(x, make([]int, years), season[race])))
		}
		x.Line = between(r, least/4, max(least/4, least-least/8))
		if r.IntN(20) == 0 {
			x.Line = least + between(r, -1, 1)
		}
		x.Line = max(0, x.Line)
		f.Races, f.Most = append(f.Races, x), append(f.Most, between(r, 0, 100))
	}
	return f
}

// copied returns a copy of a fishery that shares nothing with it.
func copied(f api.StockFishery) api.StockFishery {
	c := api.StockFishery{Races: slices.Clone(f.Races), Most: slices.Clone(f.Most), Seasons: deeper(f.Seasons)}
	for i := range c.Races {
		c.Races[i] = sameRace(c.Races[i])
	}
	return c
}

func sameRace(r api.StockRace) api.StockRace {
	r.Numbers, r.Keep, r.Spawn = slices.Clone(r.Numbers), slices.Clone(r.Keep), slices.Clone(r.Spawn)
	return r
}

func deep[T any](l [][]T) [][]T {
	var all [][]T
	for _, x := range l {
		all = append(all, slices.Clone(x))
	}
	return all
}

func deeper(l [][][]int) [][][]int {
	var all [][][]int
	for _, x := range l {
		all = append(all, deep(x))
	}
	return all
}

// closure is a choice of boxes, with what it spares and what is lost.
type closure struct {
	boxes        []int
	spared, lost int
}

// closures returns all choices of at most so many boxes.
func closures(cells []api.StockCell, boxes [][]int, most int) []closure {
	var all []closure
	for set := range 1 << len(boxes) {
		var c closure
		in := map[int]bool{}
		for box := range boxes {
			if set>>box&1 == 0 {
				continue
			}
			c.boxes = append(c.boxes, box)
			for _, number := range boxes[box] {
				in[number] = true
			}
		}
		for number := range in {
			c.spared += cells[number].Spawners
			c.lost += cells[number].Landings
		}
		if len(c.boxes) <= most {
			all = append(all, c)
		}
	}
	return all
}

// bestOf returns the best one of all choices.
func bestOf(all []closure) closure {
	return slices.MinFunc(all, func(c, o closure) int {
		n := slices.Compare([]int{-c.spared, c.lost, len(c.boxes)}, []int{-o.spared, o.lost, len(o.boxes)})
		if n != 0 {
			return n
		}
		return slices.Compare(c.boxes, o.boxes)
	})
}

// anySea returns cells and boxes; what is in a cell is from 0 to most.
func anySea(r *rand.Rand, most int) ([]api.StockCell, [][]int) {
	var cells []api.StockCell
	for range between(r, 0, 12) {
		cells = append(cells, cell(between(r, 0, most), between(r, 0, most)))
	}
	var boxes [][]int
	often := between(r, 1, 5)
	for i := range between(r, 0, 8) {
		var box []int
		for number := range cells {
			if r.IntN(often) == 0 {
				box = append(box, number)
			}
		}
		if i > 0 && r.IntN(8) == 0 {
			box = slices.Clone(boxes[r.IntN(i)])
		}
		boxes = append(boxes, box)
	}
	return cells, boxes
}
