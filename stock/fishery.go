package stock

import (
	"iter"
	"slices"

	"drifter/api"
)

func isFishery(f api.StockFishery) bool {
	races := len(f.Races)
	return areRaces(f.Races) && len(f.Most) == races && areIn(0, whole, f.Most...) && areSeasons(f.Seasons, races)
}

func areRaces(l []api.StockRace) bool {
	for _, r := range l {
		if !isRace(r) {
			return false
		}
	}
	return isIn(len(l), 1, api.StockRaces)
}

// areSeasons reports whether there is a list of recruits for each of so many races in all seasons, of the same years.
func areSeasons(l [][][]int, races int) bool {
	for _, season := range l {
		if len(season) != races {
			return false
		}
		for _, recruits := range season {
			if !areRecruits(recruits) || len(recruits) != len(l[0][0]) {
				return false
			}
		}
	}
	return isIn(len(l), 1, api.StockSeasons)
}

// fishery is a valid one.
type fishery struct{ api.StockFishery }

// takes returns the take of a race with a quota, which is the same in all years.
func (f fishery) takes(race, quota int) []int {
	take := (quota*f.Most[race] + whole - 1) / whole
	return slices.Repeat([]int{take}, len(f.Seasons[0][race]))
}

// breach is a race that breaks in a season and a year.
type breach struct{ race, season, year int }

// breaches yields, for each race and then each season in which it breaks with a quota, the first year in which it does.
func (f fishery) breaches(quota int) iter.Seq[breach] {
	return func(yield func(breach) bool) {
		for race, r := range f.Races {
			takes := f.takes(race, quota)
			for season := range f.Seasons {
				year := begin(r).breaks(takes, f.Seasons[season][race])
				if year != none && !yield(breach{race, season, year}) {
					return
				}
			}
		}
	}
}

// first returns the first of the breaches of the least year.
func (f fishery) first(quota int) (first breach, is bool) {
	for b := range f.breaches(quota) {
		if !is || b.year < first.year {
			first, is = b, true
		}
	}
	return first, is
}

// breaks reports whether some race breaks with a quota.
func (f fishery) breaks(quota int) bool {
	_, is := f.first(quota)
	return is
}
