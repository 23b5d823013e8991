package barrel

import (
	"iter"
	"slices"

	"drifter/api"
)

// pile is a valid pile.
type pile struct{ api.BarrelPile }

func newPile(p api.BarrelPile) (pile, api.Errno) {
	if !isPile(p) {
		return pile{}, api.ErrBarrelCooper
	}
	return pile{p}, api.OK
}

func isPile(p api.BarrelPile) bool {
	if !isIn(len(p.Staves), 1, api.BarrelStaves) {
		return false
	}
	for _, wide := range p.Staves {
		if !isIn(wide, 1, api.BarrelWide) {
			return false
		}
	}
	return isIn(p.Girth, 1, api.BarrelGirth) && isIn(p.Play, 0, api.BarrelPlay)
}

func (p pile) has(stave int) bool { return isIn(stave, 0, len(p.Staves)-1) }

func (p pile) wide(stave int) int { return p.Staves[stave] }

// isBarrel reports whether a list is a strictly increasing one of staves that are as wide as a barrel.
func (p pile) isBarrel(l []int) bool {
	for i, stave := range l {
		if !p.has(stave) || i > 0 && stave <= l[i-1] {
			return false
		}
	}
	return len(l) > 0 && isIn(sum(p.wide, l...), p.Girth-p.Play, p.Girth)
}

// staves tells of each stave whether it is one of some.
type staves [api.BarrelStaves]bool

func (s staves) with(l ...int) staves {
	for _, stave := range l {
		s[stave] = true
	}
	return s
}

func (s staves) without(l ...int) staves {
	for _, stave := range l {
		s[stave] = false
	}
	return s
}

func (p pile) areBarrels(l [][]int) bool {
	var taken staves
	for _, barrel := range l {
		if !p.isBarrel(barrel) || taken.without(barrel...) != taken {
			return false
		}
		taken = taken.with(barrel...)
	}
	return true
}

// barrels returns what produces all barrels of a first stave, and of later ones that are not taken.
func (p pile) barrels(first int, taken staves) iter.Seq[[]int] {
	return func(yield func([]int) bool) {
		var add func(l []int) bool
		add = func(l []int) bool {
			n := len(l)
			if p.isBarrel(l) && !yield(l[:n:n]) {
				return false
			}
			for stave := l[n-1] + 1; p.has(stave); stave++ {
				if !taken[stave] && !add(append(l[:n:n], stave)) {
					return false
				}
			}
			return true
		}
		add([]int{first})
	}
}

// set returns as many barrels as can be set up.
func (p pile) set() [][]int {
	known := map[staves][][]int{}
	var find func(taken staves) [][]int
	find = func(taken staves) [][]int {
		if best, is := known[taken]; is {
			return best
		}
		n := len(p.Staves)
		first := slices.Index(taken[:n:n], false)
		if first < 0 {
			return nil
		}
		best := find(taken.with(first))
		for barrel := range p.barrels(first, taken) {
			if rest := find(taken.with(barrel...)); len(rest) >= len(best) {
				best = append([][]int{barrel}, rest...)
			}
		}
		known[taken] = best
		return best
	}
	return find(staves{})
}
