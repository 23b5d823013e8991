package auction

import (
	"cmp"
	"slices"

	"drifter/api"
)

// bid is an offer that is not below the least price: whose it is, and where it is in their list.
type bid struct{ buyer, place, offer int }

func (b bid) worth() int { return b.offer }

// byOffer puts the greater offer first, of equal ones that of the buyer with the lesser number, and of one buyer's the earlier one.
func byOffer(a, b bid) int {
	return cmp.Or(cmp.Compare(b.offer, a.offer), cmp.Compare(a.buyer, b.buyer), cmp.Compare(a.place, b.place))
}

// sale is a valid sale.
type sale struct {
	api.AuctionSale
	order func(a, b bid) int // which of two bids comes first
}

func newSale(s api.AuctionSale) (sale, api.Errno) {
	if !isSale(s) {
		return sale{}, api.ErrAuction
	}
	return sale{s, byOffer}, api.OK
}

func isSale(s api.AuctionSale) bool {
	if !isIn(s.Crans, 0, api.AuctionCrans) || !isIn(s.Least, 0, api.AuctionPrice) || !isIn(len(s.Offers), 1, api.AuctionBuyers) {
		return false
	}
	for _, offers := range s.Offers {
		if !arePrices(offers) {
			return false
		}
	}
	return true
}

// arePrices reports whether numbers can be what somebody offers, or what crans are worth to them, one after the other.
func arePrices(l []int) bool {
	if len(l) > api.AuctionCrans {
		return false
	}
	last := api.AuctionPrice
	for _, n := range l {
		if !isIn(n, 0, last) {
			return false
		}
		last = n
	}
	return true
}

func (s sale) has(buyer int) bool { return isIn(buyer, 0, len(s.Offers)-1) }

// bids produces all bids, buyer by buyer.
func (s sale) bids(yield func(bid) bool) {
	for buyer := range len(s.Offers) {
		for place, offer := range s.Offers[buyer] {
			if offer >= s.Least && !yield(bid{buyer, place, offer}) {
				return
			}
		}
	}
}

// winners returns the bids that win, the first one first.
func (s sale) winners() []bid {
	var l []bid
	for b := range s.bids {
		l = append(l, b)
	}
	slices.SortFunc(l, s.order)
	n := min(s.Crans, len(l))
	return l[:n:n]
}

// worth returns what all bids that win are worth, and the least price for each cran that nobody gets.
func (s sale) worth() int {
	l := s.winners()
	return sum(bid.worth, l...) + s.Least*(s.Crans-len(l))
}

// gets returns how many crans a buyer gets.
func (s sale) gets(buyer int) int {
	n := 0
	for _, b := range s.winners() {
		if b.buyer == buyer {
			n++
		}
	}
	return n
}

// without returns the sale without a buyer.
func (s sale) without(buyer int) sale {
	s.Offers = slices.Clone(s.Offers)
	s.Offers[buyer] = nil
	return s
}

// lost returns the bids that lose only because a buyer is there.
func (s sale) lost(buyer int) []bid {
	wins := map[bid]bool{}
	for _, b := range s.winners() {
		wins[b] = true
	}
	var l []bid
	for _, b := range s.without(buyer).winners() {
		if !wins[b] {
			l = append(l, b)
		}
	}
	return l
}

// pays returns what the others, and who sells, lose by a buyer.
func (s sale) pays(buyer int) int {
	lost := s.lost(buyer)
	return sum(bid.worth, lost...) + s.Least*(s.gets(buyer)-len(lost))
}

// gain returns what the crans of a buyer are worth to them, less what they pay.
func (s sale) gain(buyer int, worth []int) int {
	n := min(s.gets(buyer), len(worth))
	return sum(itself, worth[:n:n]...) - s.pays(buyer)
}

// perBuyer has a number for each buyer.
type perBuyer [api.AuctionBuyers]int

// each returns what is so of each buyer.
func (s sale) each(of func(buyer int) int) perBuyer {
	var all perBuyer
	for buyer := range len(s.Offers) {
		all[buyer] = of(buyer)
	}
	return all
}

// deals returns what each buyer gets, and pays.
func (s sale) deals() []api.AuctionDeal {
	var l []api.AuctionDeal
	gets, pays := s.each(s.gets), s.each(s.pays)
	for buyer := range len(s.Offers) {
		l = append(l, api.AuctionDeal{Crans: gets[buyer], Pays: pays[buyer]})
	}
	return l
}
