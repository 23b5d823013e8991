package clerk

import (
	"cmp"
	"slices"

	"drifter/api"
	"drifter/share"
)

// books is what a quay has.
type books struct {
	day      int
	landings []api.ClerkLanding
	offers   [][]int        // of each buyer
	owed     []int          // by each buyer
	gross    []int          // of each boat
	costs    [][]int        // of each boat
	dues     []api.ClerkDue // their names increase
	brands   []api.ClerkBrand
	journal  []string
}

// newBooks returns what a new quay has.
func newBooks(s api.ClerkSetup) books {
	boats, buyers := len(s.Boats), len(s.Buyers)
	return books{day: s.Day, offers: make([][]int, buyers), owed: make([]int, buyers), gross: make([]int, boats), costs: make([][]int, boats)}
}

// boats returns the names of all boats.
func (q *Quay) boats() []string { return boatNames(q.setup) }

// buyers returns the names of all buyers.
func (q *Quay) buyers() []string {
	n := len(q.setup.Buyers)
	return q.setup.Buyers[:n:n]
}

// people returns the names of all who have a due.
func (q *Quay) people() []string {
	var names []string
	for _, d := range q.dues {
		names = append(names, d.Name)
	}
	return names
}

// crans returns how many crans lie on the quay.
func (q *Quay) crans() int {
	return sum(func(l api.ClerkLanding) int { return l.Crans }, q.landings...)
}

// sale returns the sale of a quay.
func (q *Quay) sale() api.AuctionSale {
	n := len(q.offers)
	return api.AuctionSale{Crans: q.crans(), Least: q.setup.Least, Offers: q.offers[:n:n]}
}

// perBoat has a number for each boat.
type perBoat [api.ClerkBoats]int

// take returns how many crans are taken from each boat if so many are, from the first landing on, and which landings are left.
func (q *Quay) take(crans int) (taken perBoat, left []api.ClerkLanding) {
	for _, l := range q.landings {
		n := min(l.Crans, crans)
		crans -= n
		taken[l.Boat] += n
		l.Crans -= n
		if l != (api.ClerkLanding{Boat: l.Boat}) {
			left = append(left, l)
		}
	}
	return taken, left
}

// parts divides pence among the boats, by the crans that were taken from each.
func (q *Quay) parts(pence int, taken perBoat) []int {
	var l []api.ShareStake
	for boat, name := range q.boats() {
		l = append(l, api.ShareStake{Name: name, Weight: taken[boat]})
	}
	return sure(share.Divide(pence, l))
}

// voyage returns the voyage of a boat with what it earned, and spent.
func (q *Quay) voyage(boat int) api.ShareVoyage {
	v, costs := q.setup.Boats[boat].V, q.costs[boat]
	v.Gross, v.Costs = q.gross[boat], costs[:len(costs):len(costs)]
	return v
}

// add adds to the dues what everybody gets of a voyage; a name that has no due yet gets one.
func (q *Quay) add(shares []api.ShareDue) {
	find := finder(q.people())
	for _, s := range shares {
		who := find(s.Name)
		if who == nobody {
			who = len(q.dues)
			q.dues = append(q.dues, api.ClerkDue{Name: s.Name})
		}
		q.dues[who].Sum += s.Boat + s.Nets + s.Crew
	}
	slices.SortFunc(q.dues, func(a, b api.ClerkDue) int { return cmp.Compare(a.Name, b.Name) })
}
