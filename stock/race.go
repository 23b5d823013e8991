package stock

import (
	"iter"

	"drifter/api"
)

// thousand is what Keep is counted by.
const thousand = 1000

func isRace(r api.StockRace) bool {
	ages := len(r.Numbers)
	return isIn(ages, 1, api.StockAges) && len(r.Keep) == ages && len(r.Spawn) == ages &&
		areIn(0, api.StockNumber, r.Numbers...) && areIn(0, thousand, r.Keep...) && areIn(0, api.StockSpawn, r.Spawn...) &&
		isIn(r.Line, 0, api.StockLine) && isIn(r.Mesh, 0, ages-1)
}

// areRecruits reports whether recruits are such of a race, one number for each of the years.
func areRecruits(l []int) bool {
	return isIn(len(l), 1, api.StockYears) && areIn(0, api.StockNumber, l...)
}

// fish is how many there are, age by age.
type fish [api.StockAges]int

// race is one in the calculation, with the fish that it has now.
type race struct {
	api.StockRace
	fish fish
}

// begin returns a race before the first year.
func begin(r api.StockRace) race {
	x := race{StockRace: r}
	copy(x.fish[:], r.Numbers)
	return x
}

// caught returns a race after a take.
func (r race) caught(take int) race {
	for age := len(r.Numbers) - 1; age >= r.Mesh; age-- {
		n := min(take, r.fish[age])
		r.fish[age] -= n
		take -= n
	}
	return r
}

func (r race) spawners() int {
	total := 0
	for age, spawn := range r.Spawn {
		total += r.fish[age] * spawn
	}
	return total
}

// wintered returns a race after a winter, with the recruits that come then.
func (r race) wintered(recruits int) race {
	last := len(r.Numbers) - 1
	var next fish
	for age, keep := range r.Keep {
		next[min(age+1, last)] += r.fish[age] * keep / thousand
	}
	next[0] += recruits
	r.fish = next
	return r
}

// years yields the spawners of a race, year by year.
func (r race) years(takes, recruits []int) iter.Seq2[int, int] {
	return func(yield func(int, int) bool) {
		liveOn := race.wintered
		now, before, spawning := r, r, r
		for year := range len(takes) {
			// a year that begins as the one before, with its take, goes as that one did
			if year == 0 || now.fish != before.fish || takes[year] != takes[year-1] {
				spawning = now.caught(takes[year])
			}
			if !yield(year, spawning.spawners()) {
				return
			}
			before, now = now, liveOn(spawning, recruits[year])
		}
	}
}

// breaks returns the first year in which a race has fewer spawners than its line asks for.
func (r race) breaks(takes, recruits []int) int {
	for year, spawners := range r.years(takes, recruits) {
		if spawners < r.Line {
			return year
		}
	}
	return none
}
