package clerk

import (
	"cmp"
	"slices"

	"drifter/api"
	"drifter/auction"
	"drifter/brand"
	"drifter/share"
)

// goOn does a line with a new day.
func (q *Quay) goOn(r request) string {
	day := r.numbers[0]
	require(isIn(day, q.day, api.MaxDay), api.ErrRange)
	q.day = day
	return ""
}

// land does a line with a landing.
func (q *Quay) land(r request) string {
	crans := r.numbers[0]
	require(isIn(crans, 1, api.AuctionCrans), api.ErrRange)
	require(q.crans()+crans <= api.AuctionCrans, api.ErrFull)
	q.landings = append(q.landings, api.ClerkLanding{Boat: r.who, Crans: crans})
	return answerOf(q.crans())
}

// offer does a line with what a buyer offers.
func (q *Quay) offer(r request) string {
	n := len(r.numbers)
	for _, offer := range r.numbers {
		require(offer <= api.AuctionPrice, api.ErrRange)
	}
	require(n <= api.AuctionCrans, api.ErrFull)
	require(slices.IsSortedFunc(r.numbers, func(a, b int) int { return cmp.Compare(b, a) }), api.ErrClerkOffer)
	q.offers[r.who] = r.numbers[:n:n]
	return answerOf(n)
}

// sell does a line that sells.
func (q *Quay) sell(request) string {
	deals := sure(auction.Sell(q.sale()))
	crans := sum(func(d api.AuctionDeal) int { return d.Crans }, deals...)
	pence := sum(func(d api.AuctionDeal) int { return d.Pays }, deals...)
	taken, left := q.take(crans)
	require(taken != perBoat{}, api.ErrClerkSale)
	parts := q.parts(pence, taken)
	for boat, part := range parts {
		require(q.gross[boat]+part <= api.ShareSum, api.ErrFull)
	}
	for boat, part := range parts {
		q.gross[boat] += part
	}
	for buyer := range len(deals) {
		q.owed[buyer] += deals[buyer].Pays
		q.offers[buyer] = nil
	}
	q.landings = left
	return answerOf(crans, pence)
}

// spend does a line with a cost.
func (q *Quay) spend(r request) string {
	cost, costs := r.numbers[0], q.costs[r.who]
	require(cost >= 1, api.ErrRange)
	require(len(costs) < api.ShareCosts, api.ErrFull)
	q.costs[r.who] = append(costs, cost)
	return ""
}

// settle does a line that divides a voyage.
func (q *Quay) settle(r request) string {
	v := q.voyage(r.who)
	divided := v.Gross - sum(itself, v.Costs...)
	require(divided >= 0, api.ErrClerkCost)
	q.add(sure(share.Shares(v)))
	q.gross[r.who], q.costs[r.who] = 0, nil
	return answerOf(divided)
}

// payOut does a line that pays some of a due.
func (q *Quay) payOut(r request) string {
	due := &q.dues[r.who]
	due.Sum = less(due.Sum, r.numbers[0])
	return answerOf(due.Sum)
}

// takeIn does a line with what a buyer pays.
func (q *Quay) takeIn(r request) string {
	q.owed[r.who] = less(q.owed[r.who], r.numbers[0])
	return answerOf(q.owed[r.who])
}

// less returns what is left of a sum when some of it is paid.
func less(sum, paid int) int {
	require(paid >= 1, api.ErrRange)
	require(paid <= sum, api.ErrClerkMoney)
	return sum - paid
}

// promise does a line with a lot that is branded.
func (q *Quay) promise(r request) string {
	barrels, opened := r.numbers[0], barrelsOf(r.numbers[1:])
	n := len(opened)
	which, allow, e := brand.Promise(q.setup.Marks, barrels, q.setup.Rule, opened[:n:n])
	requireBrand(e)
	require(len(q.brands) < api.ClerkBrands, api.ErrFull)
	q.brands = append(q.brands, api.ClerkBrand{Buyer: r.who, Barrels: barrels, Mark: which})
	return answerOf(which, allow)
}

// barrelsOf returns the barrels that have some qualities, one barrel's behind another's.
func barrelsOf(numbers []int) []api.BrandBarrel {
	var l []api.BrandBarrel
	for b := range slices.Chunk(numbers, qualities) {
		l = append(l, api.BrandBarrel(b))
	}
	return l
}

// requireBrand leaves a line unless all is well with its barrels.
func requireBrand(e api.Errno) {
	switch e {
	case api.ErrBrandRule, api.ErrBrandOpened:
		leave(api.ErrClerkBrand)
	}
	require(e == api.OK, e)
}
