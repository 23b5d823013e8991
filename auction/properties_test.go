package auction_test

import (
	"math/rand/v2"
	"slices"
	"testing"

	"drifter/api"
	"drifter/auction"
)

func sell(t *testing.T, s api.AuctionSale) []api.AuctionDeal {
	t.Helper()
	l, e := auction.Sell(s)
	if len(l) != len(s.Offers) || e != api.OK {
		t.Fatalf("Sell of %v: %v, %d", s, l, e)
	}
	return l
}

func gain(t *testing.T, s api.AuctionSale, buyer int, worth []int) int {
	t.Helper()
	n, e := auction.Gain(s, buyer, worth)
	if e != api.OK {
		t.Fatalf("Gain of %v, %d, %v: %d", s, buyer, worth, e)
	}
	return n
}

func price(t *testing.T, s api.AuctionSale, order []int) int {
	t.Helper()
	n, e := auction.Price(s, order)
	if e != api.OK {
		t.Fatalf("Price of %v, %v: %d", s, order, e)
	}
	return n
}

// total returns what numbers are together.
func total(l []int) int {
	n := 0
	for _, x := range l {
		n += x
	}
	return n
}

// crans returns how many crans each buyer gets.
func crans(l []api.AuctionDeal) []int {
	var gets []int
	for _, d := range l {
		gets = append(gets, d.Crans)
	}
	return gets
}

func TestTheSale(t *testing.T) { // P4.6
	r := rand.New(rand.NewPCG(4, 6))
	for range 500 {
		s := anySale(r, 8, 4, 6)
		l := sell(t, s)
		worth, e := auction.Worth(s)
		if best := mostWorth(s); worth != best || worthIn(s, crans(l)) != best || total(crans(l)) > s.Crans || e != api.OK {
			t.Errorf("%v: %v with a worth of %d, %d; not %d", s, l, worth, e, best)
		}
	}
	each(1500, func(_ *rand.Rand, s api.AuctionSale) {
		for buyer, d := range sell(t, s) {
			if offered := total(s.Offers[buyer][:d.Crans]); d.Pays > offered || d.Pays < s.Least*d.Crans {
				t.Errorf("%v: %v for the buyer %d, who offered %d", s, d, buyer, offered)
			}
		}
	})
}

// allOffers returns all lists of up to so many numbers, up to a greatest one, that do not increase.
func allOffers(most, greatest int) [][]int {
	all := [][]int{nil}
	if most == 0 {
		return all
	}
	for n := range greatest + 1 {
		for _, l := range allOffers(most-1, n) {
			all = append(all, append([]int{n}, l...))
		}
	}
	return all
}

func TestTheOffer(t *testing.T) { // P4.7
	r := rand.New(rand.NewPCG(4, 7))
	lists := allOffers(3, 6)
	for range 150 {
		s := api.AuctionSale{Crans: between(r, 0, 5), Least: between(r, 0, 3)}
		for range between(r, 1, 3) {
			s.Offers = append(s.Offers, lists[r.IntN(len(lists))])
		}
		honest(t, s, r.IntN(len(s.Offers)), lists)
	}
	each(400, func(r *rand.Rand, s api.AuctionSale) {
		var others [][]int
		for range 5 {
			others = append(others, anyPrices(r, api.AuctionCrans))
		}
		honest(t, s, r.IntN(len(s.Offers)), others)
	})
}

// honest holds what a buyer gains who offers what crans are worth to them to what they gain with other lists of offers.
func honest(t *testing.T, s api.AuctionSale, buyer int, lists [][]int) {
	t.Helper()
	worth := s.Offers[buyer]
	gains := gain(t, s, buyer, worth)
	if gains < 0 {
		t.Errorf("%v: the buyer %d gains %d", s, buyer, gains)
	}
	other := deep(s)
	for _, offers := range lists {
		other.Offers[buyer] = offers
		if n := gain(t, other, buyer, worth); n > gains {
			t.Errorf("%v: the buyer %d gains %d; with %v %d", s, buyer, gains, offers, n)
		}
	}
}

func TestTheRing(t *testing.T) { // P4.8
	r := rand.New(rand.NewPCG(4, 8))
	for range 200 {
		s := anySale(r, 7, 4, 5)
		l := sell(t, s)
		for set := range 1 << len(l) {
			var ring api.AuctionSale // nobody outside buys, so a cran is worth nothing there
			held := 0
			for buyer, d := range l {
				if set>>buyer&1 == 1 {
					ring.Offers = append(ring.Offers, s.Offers[buyer])
					ring.Crans += d.Crans
					held += total(s.Offers[buyer][:d.Crans])
				}
			}
			if most := mostWorth(ring); most > held {
				t.Errorf("%v: %v, worth %d to the ring %b; %d among themselves", s, l, held, set, most)
			}
		}
	}
}

// orders returns all orders of so many callers.
func orders(buyers int) [][]int {
	if buyers == 0 {
		return [][]int{nil}
	}
	var all [][]int
	for _, order := range orders(buyers - 1) {
		for i := range buyers {
			all = append(all, slices.Insert(slices.Clone(order), i, buyers-1))
		}
	}
	return all
}

func TestTheClock(t *testing.T) { // P4.9
	r := rand.New(rand.NewPCG(4, 9))
	for range 60 {
		sameClock(t, r, anySale(r, 8, 4, 5), orders)
	}
	for range 20 {
		sameClock(t, r, anySale(r, api.AuctionCrans, api.AuctionBuyers, api.AuctionCrans), func(buyers int) [][]int {
			return [][]int{r.Perm(buyers), r.Perm(buyers), inTurn(buyers)}
		})
	}
}

// sameClock holds the clock in some orders of callers to the least bid that wins, and to what is taken in another order.
func sameClock(t *testing.T, r *rand.Rand, s api.AuctionSale, orders func(buyers int) [][]int) {
	t.Helper()
	least := -1
	for buyer, d := range sell(t, s) {
		for _, offer := range s.Offers[buyer][:d.Crans] {
			if least < 0 || offer < least {
				least = offer
			}
		}
	}
	at := []int{min(least+1, api.AuctionPrice), api.AuctionPrice}
	for range 4 {
		at = append(at, anyPrice(r, s))
	}
	at = slices.DeleteFunc(at, func(n int) bool { return n <= least || n < s.Least })
	first := map[int][]int{}
	for _, order := range orders(len(s.Offers)) {
		if n := price(t, s, order); n != least {
			t.Errorf("%v: the price in the order %v is %d, and the least bid that wins %d", s, order, n, least)
		}
		for _, n := range at {
			l, e := auction.Taken(s, order, n)
			if first[n] == nil {
				first[n] = l
			}
			if !slices.Equal(l, first[n]) || e != api.OK {
				t.Errorf("%v: at %d in the order %v %v is taken, %d; before that %v", s, n, order, l, e, first[n])
			}
		}
	}
}

func TestMoreCransOrBuyers(t *testing.T) { // P4.10
	all := 0
	each(1000, func(r *rand.Rand, s api.AuctionSale) {
		l := sell(t, s)
		more := s
		more.Crans++
		if s.Crans < api.AuctionCrans {
			for buyer, d := range sell(t, more) {
				if d.Crans < l[buyer].Crans {
					t.Errorf("%v: %v; with a cran more only %v for %d", s, l, d, buyer)
				}
			}
		}
		if len(s.Offers) == api.AuctionBuyers {
			return
		}
		more, i := deep(s), r.IntN(len(s.Offers)+1)
		more.Offers = slices.Insert(more.Offers, i, anyPrices(r, 8))
		for buyer, d := range slices.Delete(sell(t, more), i, i+1) {
			if d.Crans > l[buyer].Crans {
				t.Errorf("%v: %v; with a buyer more %v for %d", s, l, d, buyer)
			}
		}
		if total(crans(l)) < s.Crans {
			return
		}
		all++
		order := inTurn(len(s.Offers))
		if a, b := price(t, s, order), price(t, more, append(order, len(order))); b < a {
			t.Errorf("%v: the price %d; with the buyer %v more %d", s, a, more.Offers[i], b)
		}
	})
	if all < 200 {
		t.Errorf("all crans are sold only %d times", all)
	}
}
