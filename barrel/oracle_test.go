package barrel_test

import (
	"math/rand/v2"
	"slices"

	"drifter/api"
)

func to(low, high int) api.Span { return api.Span{Low: low, High: high} }

func between(r *rand.Rand, low, high int) int { return low + r.IntN(high-low+1) }

func total(l []int) int {
	n := 0
	for _, x := range l {
		n += x
	}
	return n
}

// mostBarrels returns how many barrels can be set up: of each set of staves the most are known when those of greater sets are counted.
func mostBarrels(p api.BarrelPile) int {
	n := len(p.Staves)
	wide, most := make([]int, 1<<n), make([]int, 1<<n)
	for set := 1; set < 1<<n; set++ {
		for stave, w := range p.Staves {
			if set>>stave&1 == 1 {
				wide[set] += w
			}
		}
		for part := set; part > 0; part = (part - 1) & set {
			if wide[part] <= p.Girth && wide[part] >= p.Girth-p.Play {
				most[set] = max(most[set], 1+most[set-part])
			}
		}
	}
	return most[1<<n-1]
}

// areBarrels holds lists of staves to the chapter's words, each by itself.
func areBarrels(p api.BarrelPile, l [][]int) bool {
	used := map[int]bool{}
	for _, barrel := range l {
		wide := 0
		for i, stave := range barrel {
			if stave < 0 || stave >= len(p.Staves) || used[stave] || i > 0 && barrel[i-1] >= stave {
				return false
			}
			used[stave] = true
			wide += p.Staves[stave]
		}
		if len(barrel) == 0 || wide > p.Girth || p.Girth-wide > p.Play {
			return false
		}
	}
	return true
}

// levelAt returns how high the brine of a barrel stands when it has leaked in a month, told from the month in which it was last topped up before.
func levelAt(y []api.BarrelCask, plan []int, leaks [][]int, barrel, month int) int {
	level, since := y[barrel].Level, 0
	for m := range month {
		if plan[m] == barrel {
			level, since = y[barrel].Full, m+1
		}
	}
	for m := since; m <= month; m++ {
		level = max(level-leaks[m][barrel], 0)
	}
	return level
}

// runOf returns the levels behind a plan and -1, or those of the first month in which a barrel is dry, and this month.
func runOf(y []api.BarrelCask, plan []int, leaks [][]int) ([]int, int) {
	levels := make([]int, len(y))
	for barrel, c := range y {
		levels[barrel] = c.Level
	}
	for month, topped := range plan {
		dry := false
		for barrel, c := range y {
			levels[barrel] = levelAt(y, plan, leaks, barrel, month)
			dry = dry || levels[barrel] < c.Line
		}
		if dry {
			return levels, month
		}
		if topped >= 0 {
			levels[topped] = y[topped].Full
		}
	}
	return levels, -1
}

// greatest returns the greatest leaks of so many months.
func greatest(y []api.BarrelCask, months int) [][]int {
	return leaksWith(y, months, func(s api.Span) int { return s.High })
}

// leaksWith returns leaks of which each one is chosen of its span.
func leaksWith(y []api.BarrelCask, months int, choose func(s api.Span) int) [][]int {
	leaks := [][]int{}
	for range months {
		var l []int
		for _, c := range y {
			l = append(l, choose(c.Leak))
		}
		leaks = append(leaks, l)
	}
	return leaks
}

// anyLeaks returns leaks of which some are as little, and some as much, as can be.
func anyLeaks(r *rand.Rand, y []api.BarrelCask, months int) [][]int {
	return leaksWith(y, months, func(s api.Span) int {
		switch r.IntN(4) {
		case 0:
			return s.Low
		case 1:
			return s.High
		}
		return between(r, s.Low, s.High)
	})
}

// allLeaks returns all leaks of so many months.
func allLeaks(y []api.BarrelCask, months int) [][][]int {
	lists := [][]int{{}}
	for _, c := range y {
		var longer [][]int
		for _, l := range lists {
			for n := c.Leak.Low; n <= c.Leak.High; n++ {
				longer = append(longer, append(slices.Clone(l), n))
			}
		}
		lists = longer
	}
	all := [][][]int{{}}
	for range months {
		var longer [][][]int
		for _, leaks := range all {
			for _, l := range lists {
				longer = append(longer, append(slices.Clone(leaks), l))
			}
		}
		all = longer
	}
	return all
}

// anyPlan returns a plan.
func anyPlan(r *rand.Rand, y []api.BarrelCask, months int) []int {
	plan := []int{}
	for range months {
		plan = append(plan, between(r, -1, len(y)-1))
	}
	return plan
}

// allPlans returns all plans of so many months and barrels.
func allPlans(months, barrels int) [][]int {
	all := [][]int{{}}
	for range months {
		var longer [][]int
		for _, plan := range all {
			for topped := -1; topped < barrels; topped++ {
				longer = append(longer, append(slices.Clone(plan), topped))
			}
		}
		all = longer
	}
	return all
}

// canKeep reports whether some plan keeps a yard: it tells which barrels can have leaked for how long, month by month.
func canKeep(y []api.BarrelCask, months int) bool {
	type age struct {
		months int
		topped bool
	}
	holds := func(c api.BarrelCask, a age) bool {
		level := c.Level
		if a.topped {
			level = c.Full
		}
		return max(level-a.months*c.Leak.High, 0) >= c.Line
	}
	ages := map[[4]age]bool{{}: true}
	for range months {
		next := map[[4]age]bool{}
	all:
		for a := range ages {
			for barrel, c := range y {
				a[barrel].months++
				if !holds(c, a[barrel]) {
					continue all
				}
			}
			next[a] = true
			for barrel := range y {
				b := a
				b[barrel] = age{0, true}
				next[b] = true
			}
		}
		ages = next
	}
	return len(ages) > 0
}

// firstOf returns the barrel that is dry first, and the month, if none is topped up, and all leak as much as they can.
func firstOf(y []api.BarrelCask, months int) (barrel, month int, is bool) {
	for month := range months {
		for barrel, c := range y {
			if max(c.Level-(month+1)*c.Leak.High, 0) < c.Line {
				return barrel, month, true
			}
		}
	}
	return 0, 0, false
}

// balances holds counts to the chapter's words.
func balances(b api.BarrelBook, counts []int) bool {
	in, out := map[int]int{}, map[int]int{}
	for i, m := range b.Moves {
		if counts[i] < m.Count.Low || counts[i] > m.Count.High {
			return false
		}
		in[m.To] += counts[i]
		out[m.From] += counts[i]
	}
	for station := range b.Stations {
		if in[station] != out[station] {
			return false
		}
	}
	return true
}

// allCounts returns all counts of a book that balance.
func allCounts(b api.BarrelBook) [][]int {
	all := [][]int{{}}
	for _, m := range b.Moves {
		var longer [][]int
		for _, counts := range all {
			for n := m.Count.Low; n <= m.Count.High; n++ {
				longer = append(longer, append(slices.Clone(counts), n))
			}
		}
		all = longer
	}
	return slices.DeleteFunc(all, func(counts []int) bool { return !balances(b, counts) })
}

// mustAndCan returns how many barrels must go out of a set of stations at least, and can come into it at most, by all moves but one.
func mustAndCan(b api.BarrelBook, set, but int) (must, can int) {
	for i, m := range b.Moves {
		from, to := set&(1<<m.From) != 0, set&(1<<m.To) != 0
		if i != but && from && !to {
			must += m.Count.Low
		}
		if i != but && !from && to {
			can += m.Count.High
		}
	}
	return must, can
}

func proves(b api.BarrelBook, set int) bool {
	must, can := mustAndCan(b, set, -1)
	return must > can
}

// spansOf returns between what each count lies, if the book balances, told by sets of stations alone: what must go out of a set comes in, and what can come in is all that goes out.
func spansOf(b api.BarrelBook) (l []api.Span, is bool) {
	for i, m := range b.Moves {
		s := m.Count
		for set := range 1 << b.Stations {
			if proves(b, set) {
				return nil, false
			}
			must, can := mustAndCan(b, set, i)
			from, to := set&(1<<m.From) != 0, set&(1<<m.To) != 0
			if to && !from {
				s.Low = max(s.Low, must-can)
			}
			if from && !to {
				s.High = min(s.High, can-must)
			}
		}
		l = append(l, s)
	}
	return l, true
}

// anyPile returns a pile of up to so many staves; some barrels, or none, can be set up.
func anyPile(r *rand.Rand, staves int) api.BarrelPile {
	wide := []int{3, 10, 60, api.BarrelWide}[r.IntN(4)]
	p := api.BarrelPile{Girth: between(r, 1, 5*wide/2), Play: between(r, 0, min(wide/2, api.BarrelPlay))}
	for range between(r, 1, staves) {
		p.Staves = append(p.Staves, between(r, 1, wide))
	}
	return p
}

// allBarrels returns all barrels of a pile.
func allBarrels(p api.BarrelPile) [][]int {
	var all [][]int
	for set := range 1 << len(p.Staves) {
		var barrel []int
		for stave := range p.Staves {
			if set>>stave&1 == 1 {
				barrel = append(barrel, stave)
			}
		}
		if areBarrels(p, [][]int{barrel}) {
			all = append(all, barrel)
		}
	}
	return all
}

// anyLists returns lists of staves, of which each one is most often right by itself, and has often no stave of another one.
func anyLists(r *rand.Rand, p api.BarrelPile) [][]int {
	var l [][]int
	all := allBarrels(p)
	for len(all) > 0 && r.IntN(4) > 0 {
		more := append(slices.Clone(l), slices.Clone(all[r.IntN(len(all))]))
		if areBarrels(p, more) || r.IntN(4) == 0 {
			l = more
		}
	}
	if len(l) > 0 && r.IntN(4) == 0 {
		barrel := l[r.IntN(len(l))]
		barrel[r.IntN(len(barrel))] += between(r, -1, 1)
	}
	return l
}

// anyYard returns a yard of up to so many barrels, of up to so much brine, most of which last for some months.
func anyYard(r *rand.Rand, barrels, full int) []api.BarrelCask {
	var y []api.BarrelCask
	n := between(r, 1, barrels)
	for range n {
		c := api.BarrelCask{Full: between(r, 1, full)}
		c.Line = between(r, 0, c.Full*3/4)
		c.Level = between(r, (c.Line+c.Full)/2, c.Full)
		if r.IntN(10) == 0 {
			c.Level = between(r, 0, c.Full)
		}
		leak := (c.Full - c.Line) / between(r, max(1, n-1), 2*n)
		c.Leak = to(between(r, 0, leak), leak)
		y = append(y, c)
	}
	return y
}

// eachYard calls f with many yards, the same ones each time, and months; every second one is as great as a yard can be.
func eachYard(many int, f func(r *rand.Rand, y []api.BarrelCask, months int)) {
	r := rand.New(rand.NewPCG(6, 3))
	for i := range many {
		if i%2 == 0 {
			f(r, anyYard(r, 4, api.BarrelLevel), between(r, 0, api.BarrelMonths))
		} else {
			f(r, anyYard(r, 3, 12), between(r, 0, 5))
		}
	}
}

// anyRounds returns a book whose moves lead round and round between stations, and counts of it that balance.
func anyRounds(r *rand.Rand, stations, moves, most int) (api.BarrelBook, []int) {
	b := api.BarrelBook{Stations: between(r, 2, stations)}
	var counts []int
	for len(b.Moves) < between(r, 2, moves-1) {
		around := r.Perm(b.Stations)[:between(r, 2, min(b.Stations, moves-len(b.Moves)))]
		n := between(r, 0, most)
		for i, station := range around {
			b.Moves = append(b.Moves, api.BarrelMove{From: station, To: around[(i+1)%len(around)], Count: to(n, n)})
			counts = append(counts, n)
		}
	}
	if len(b.Moves) < moves && r.IntN(2) == 0 { // some of what comes in on one move goes out by another one
		i := r.IntN(len(b.Moves))
		n := between(r, 0, counts[i])
		m := b.Moves[i]
		m.Count = to(n, n)
		b.Moves = append(b.Moves, m)
		counts[i] -= n
		b.Moves[i].Count = to(counts[i], counts[i])
		counts = append(counts, n)
	}
	return b, counts
}

// anyBook returns a book, and counts that balance, if it has some for sure.
func anyBook(r *rand.Rand, stations, moves, most, wide int) (b api.BarrelBook, counts []int) {
	if r.IntN(4) > 0 {
		b, counts = anyRounds(r, stations, moves, most)
	} else {
		b.Stations = between(r, 2, stations)
		for range between(r, 1, moves) {
			l := r.Perm(b.Stations)
			n := between(r, 0, most)
			b.Moves = append(b.Moves, api.BarrelMove{From: l[0], To: l[1], Count: to(n, n)})
		}
	}
	for i := range b.Moves {
		s := &b.Moves[i].Count
		s.Low, s.High = between(r, max(s.Low-wide, 0), s.Low), between(r, s.High, min(s.High+wide, api.BarrelCount))
		if counts != nil && r.IntN(12) == 0 { // it may be false now
			by := between(r, 1, 2*wide)
			s.Low, s.High, counts = min(s.Low+by, api.BarrelCount), min(s.High+by, api.BarrelCount), nil
		}
	}
	return b, counts
}

// eachBook calls f with many books, the same ones each time, and with counts that balance, or nil; every second book is as great as it can be.
func eachBook(many int, f func(r *rand.Rand, b api.BarrelBook, counts []int)) {
	r := rand.New(rand.NewPCG(6, 4))
	for i := range many {
		stations, moves, most, wide := 4, 5, 4, 3
		if i%2 == 0 {
			stations, moves, most, wide = api.BarrelStations, api.BarrelMoves, api.BarrelCount, 1+r.IntN(400)
		}
		b, counts := anyBook(r, stations, moves, most, wide)
		f(r, b, counts)
	}
}
