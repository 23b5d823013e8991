package auction

import (
	"iter"

	"drifter/api"
)

// call is a sale by the clock, and in which order its buyers are called.
type call struct {
	sale
	callers []int
}

func newCall(s api.AuctionSale, order []int) (call, api.Errno) {
	w, e := newSale(s)
	if e != api.OK {
		return call{}, e
	}
	if !w.isOrder(order) {
		return call{}, api.ErrAuctionOrder
	}
	return call{w, order}, api.OK
}

// isOrder reports whether a list has each buyer just once.
func (s sale) isOrder(order []int) bool {
	var called perBuyer
	for _, buyer := range order {
		if !s.has(buyer) || called[buyer] > 0 {
			return false
		}
		called[buyer]++
	}
	return len(order) == len(s.Offers)
}

// clock returns what lets the clock fall to the least price: it produces each price, and how many crans each buyer has taken by then.
func (c call) clock() iter.Seq2[int, perBuyer] {
	return func(yield func(int, perBuyer) bool) {
		var taken perBuyer
		left := c.Crans
		for price := api.AuctionPrice; price >= c.Least; price-- {
		callers:
			for _, buyer := range c.callers {
				for ; left > 0; left-- {
					// offers do not increase: the first one that is not taken is the greatest
					offers := c.Offers[buyer][taken[buyer]:]
					if len(offers) == 0 || offers[0] < price {
						continue callers
					}
					taken[buyer]++
				}
			}
			if !yield(price, taken) {
				return
			}
		}
	}
}

// price returns the last price at which more was taken than before, and -1 if there is none.
func (c call) price() int {
	last := -1
	var before perBuyer
	for price, taken := range c.clock() {
		if taken != before {
			last = price
		}
		before = taken
	}
	return last
}

// taken returns how many crans each buyer has taken when the clock has fallen to a price.
func (c call) taken(price int) perBuyer {
	var last perBuyer
	for stands, taken := range c.clock() {
		if stands < price {
			break
		}
		last = taken
	}
	return last
}
