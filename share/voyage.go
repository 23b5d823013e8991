package share

import (
	"maps"
	"slices"

	"drifter/api"
)

// voyage is a voyage, and what its lenders have once all loans are made.
type voyage struct {
	api.ShareVoyage
	lent map[string]lender
}

// newVoyage checks a voyage and its loans.
func newVoyage(v api.ShareVoyage) (voyage, api.Errno) {
	w := voyage{ShareVoyage: v}
	if !w.isValid() {
		return voyage{}, api.ErrShare
	}
	lent, right := w.lend()
	if !right {
		return voyage{}, api.ErrShareLoan
	}
	w.lent = lent
	return w, api.OK
}

func (v voyage) isValid() bool {
	e := v.eighths()
	return isIn(v.Gross, 0, api.ShareSum) &&
		len(v.Costs) <= api.ShareCosts && areIn(0, v.Gross, v.Costs...) && v.divided() >= 0 &&
		areIn(0, api.ShareEighth, e[:]...) && sum(itself, e[:]...) == api.ShareEighth &&
		areStakes(v.Owners) && areStakes(v.Lenders) && areStakes(v.Hands) &&
		e == v.backed()
}

// divided returns what is divided: what is left of the gross.
func (v voyage) divided() int { return v.Gross - sum(itself, v.Costs...) }

// thirds has a number for each of the three parts.
type thirds [3]int

// part is one of the three parts.
type part struct {
	name   string
	stakes func(voyage) []api.ShareStake // who has a stake in it
	claims func(voyage) []api.ShareStake // the weights by which it is divided
}

func parts() [3]part {
	return [...]part{
		{"boat", voyage.owners, voyage.owners},
		{"nets", voyage.lenders, voyage.claims},
		{"crew", voyage.hands, voyage.hands},
	}
}

func (v voyage) owners() []api.ShareStake { return v.Owners[:len(v.Owners):len(v.Owners)] }

func (v voyage) lenders() []api.ShareStake { return v.Lenders[:len(v.Lenders):len(v.Lenders)] }

func (v voyage) hands() []api.ShareStake { return v.Hands[:len(v.Hands):len(v.Hands)] }

// claims returns the lenders with their claims as their weights.
func (v voyage) claims() []api.ShareStake {
	var l []api.ShareStake
	for _, s := range v.Lenders {
		l = append(l, api.ShareStake{Name: s.Name, Weight: v.lent[s.Name].claim})
	}
	return l
}

// eighths returns how many eighths go to each part.
func (v voyage) eighths() thirds { return thirds{v.Boat, v.Nets, v.Crew} }

// backed returns the eighths of those parts that somebody gets.
func (v voyage) backed() thirds {
	e := v.eighths()
	for i, p := range parts() {
		if weights(p.stakes(v)) == 0 {
			e[i] = 0
		}
	}
	return e
}

// pence returns the three parts.
func (v voyage) pence() thirds {
	var l []api.ShareStake
	e := v.eighths()
	for i, p := range parts() {
		l = append(l, api.ShareStake{Name: p.name, Weight: e[i]})
	}
	return thirds(divide(v.divided(), l))
}

// dues returns what each name gets of each part, the names increasing.
func (v voyage) dues() []api.ShareDue {
	gets := map[string]thirds{}
	pence := v.pence()
	for i, p := range parts() {
		claims := p.claims(v)
		for k, n := range divide(pence[i], claims) {
			due := gets[claims[k].Name]
			due[i] = n
			gets[claims[k].Name] = due
		}
	}
	var l []api.ShareDue
	for _, name := range slices.Sorted(maps.Keys(gets)) {
		due := gets[name]
		l = append(l, api.ShareDue{Name: name, Boat: due[0], Nets: due[1], Crew: due[2]})
	}
	return l
}
