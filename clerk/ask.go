package clerk

import (
	"strings"

	"drifter/api"
	"drifter/auction"
	"drifter/brand"
)

// tellDue answers a line that asks for a due.
func (q *Quay) tellDue(r request) string { return answerOf(q.dues[r.who].Sum) }

// tellOwed answers a line that asks what a buyer owes.
func (q *Quay) tellOwed(r request) string { return answerOf(q.owed[r.who]) }

// tellCrans answers a line that asks how many crans lie on the quay.
func (q *Quay) tellCrans(request) string { return answerOf(q.crans()) }

// tellPrice answers a line that asks for the price.
func (q *Quay) tellPrice(request) string {
	var order []int
	for buyer := range len(q.setup.Buyers) {
		order = append(order, buyer)
	}
	price := sure(auction.Price(q.sale(), order))
	require(price >= 0, api.ErrNone)
	return answerOf(price)
}

// tellVoyage answers a line that asks for the gross and the costs of a boat.
func (q *Quay) tellVoyage(r request) string {
	v := q.voyage(r.who)
	return answerOf(v.Gross, sum(itself, v.Costs...))
}

// tellSheet answers a line that asks for all that is due.
func (q *Quay) tellSheet(request) string {
	var parts []string
	for _, d := range q.dues {
		if d.Sum > 0 {
			parts = append(parts, d.Name, answerOf(d.Sum))
		}
	}
	if len(parts) == 0 {
		return nothingDue
	}
	return strings.Join(parts, blank)
}

// tellGrade answers a line that asks which brand a barrel reaches.
func (q *Quay) tellGrade(r request) string {
	which, e := brand.Grade(q.setup.Marks, api.BrandBarrel(r.numbers))
	requireBrand(e)
	return answerOf(which)
}
