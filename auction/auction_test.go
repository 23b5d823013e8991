package auction_test

import (
	"math"
	"math/rand/v2"
	"reflect"
	"slices"
	"testing"

	"drifter/api"
	"drifter/auction"
)

// quay is the sale of the chapter's examples, with so many crans.
func quay(crans int) api.AuctionSale {
	return api.AuctionSale{Crans: crans, Least: 4, Offers: [][]int{{20, 12, 5}, {15, 14}, {10, 3}}}
}

// most is a sale of which everything is as great, and as much, as can be.
func most() api.AuctionSale {
	s := api.AuctionSale{Crans: api.AuctionCrans, Least: api.AuctionPrice}
	for range api.AuctionBuyers {
		s.Offers = append(s.Offers, slices.Repeat([]int{api.AuctionPrice}, api.AuctionCrans))
	}
	return s
}

// deals reads crans and what is paid in turn.
func deals(l ...int) []api.AuctionDeal {
	var out []api.AuctionDeal
	for i := 0; i < len(l); i += 2 {
		out = append(out, api.AuctionDeal{Crans: l[i], Pays: l[i+1]})
	}
	return out
}

// inTurn is the order in which the first buyer of so many is called first.
func inTurn(buyers int) []int {
	var order []int
	for buyer := range buyers {
		order = append(order, buyer)
	}
	return order
}

// wrongSale calls every function with a sale that is not valid, and with a right and a wrong question: with an error, everything else must be zero (R1, R2, P1).
func wrongSale(t *testing.T, what string, s api.AuctionSale) {
	t.Helper()
	if e := auction.Check(s); e != api.ErrAuction {
		t.Errorf("%s: Check %d", what, e)
	}
	if l, e := auction.Sell(s); len(l) != 0 || e != api.ErrAuction {
		t.Errorf("%s: Sell %v, %d", what, l, e)
	}
	if n, e := auction.Worth(s); n != 0 || e != api.ErrAuction {
		t.Errorf("%s: Worth %d, %d", what, n, e)
	}
	for _, buyer := range []int{0, -1, 99} {
		if n, e := auction.Gain(s, buyer, []int{10}); n != 0 || e != api.ErrAuction {
			t.Errorf("%s: Gain %d, %d", what, n, e)
		}
		if n, e := auction.Gain(s, buyer, []int{10, 20}); n != 0 || e != api.ErrAuction {
			t.Errorf("%s: Gain of what is worth more %d, %d", what, n, e)
		}
	}
	for _, order := range [][]int{nil, {0}, inTurn(len(s.Offers)), {-1}} {
		if n, e := auction.Price(s, order); n != 0 || e != api.ErrAuction {
			t.Errorf("%s: Price %d, %d", what, n, e)
		}
		for _, price := range []int{10, -1, 10001} {
			if l, e := auction.Taken(s, order, price); len(l) != 0 || e != api.ErrAuction {
				t.Errorf("%s: Taken %v, %d", what, l, e)
			}
		}
	}
}

func TestSalesThatAreWrong(t *testing.T) { // P4.1
	for what, change := range map[string]func(s *api.AuctionSale){
		"nothing":                  func(s *api.AuctionSale) { *s = api.AuctionSale{} },
		"crans below 0":            func(s *api.AuctionSale) { s.Crans = -1 },
		"too many crans":           func(s *api.AuctionSale) { s.Crans = 41 },
		"far too few crans":        func(s *api.AuctionSale) { s.Crans = math.MinInt },
		"far too many crans":       func(s *api.AuctionSale) { s.Crans = math.MaxInt },
		"a least price below 0":    func(s *api.AuctionSale) { s.Least = -1 },
		"a least price too great":  func(s *api.AuctionSale) { s.Least = 10001 },
		"one far below 0":          func(s *api.AuctionSale) { s.Least = math.MinInt },
		"one far too great":        func(s *api.AuctionSale) { s.Least = math.MaxInt },
		"no buyers":                func(s *api.AuctionSale) { s.Offers = nil },
		"an empty list of buyers":  func(s *api.AuctionSale) { s.Offers = [][]int{} },
		"nine buyers":              func(s *api.AuctionSale) { s.Offers = make([][]int, 9) },
		"41 offers":                func(s *api.AuctionSale) { s.Offers[2] = make([]int, 41) },
		"an offer below 0":         func(s *api.AuctionSale) { s.Offers[0] = []int{5, -1} },
		"a first offer below 0":    func(s *api.AuctionSale) { s.Offers[2] = []int{-1} },
		"an offer too great":       func(s *api.AuctionSale) { s.Offers[2] = []int{10001} },
		"one that is far below":    func(s *api.AuctionSale) { s.Offers[1] = []int{math.MinInt} },
		"one that is far too much": func(s *api.AuctionSale) { s.Offers[1] = []int{math.MaxInt, 3} },
		"offers that increase":     func(s *api.AuctionSale) { s.Offers[1] = []int{14, 15} },
		"that increase at last":    func(s *api.AuctionSale) { s.Offers[2] = []int{10, 3, 3, 2, 3} },
		"that increase below":      func(s *api.AuctionSale) { s.Offers[2] = []int{10, 1, 2} }, // below Least, so they are no bids
	} {
		s := quay(3)
		change(&s)
		wrongSale(t, what, s)
	}
}

func TestSalesThatAreRight(t *testing.T) { // P4.1
	free, high, bare, low := quay(3), quay(3), quay(3), quay(3)
	free.Least, high.Least, bare.Offers, low.Offers = 0, 10000, make([][]int, 8), [][]int{make([]int, 40)}
	for i, s := range []api.AuctionSale{quay(0), quay(3), quay(40), most(), free, high, bare, low, {Offers: [][]int{nil}}, {Offers: [][]int{{}, {0}, {10000, 10000, 0, 0}}}} {
		order := inTurn(len(s.Offers))
		l, e1 := auction.Sell(s)
		_, e2 := auction.Worth(s)
		_, e3 := auction.Gain(s, len(s.Offers)-1, nil)
		_, e4 := auction.Price(s, order)
		taken, e5 := auction.Taken(s, order, s.Least)
		_, e6 := auction.Taken(s, order, 10000)
		if e := auction.Check(s); e != api.OK || e1 != api.OK || e2 != api.OK || e3 != api.OK || e4 != api.OK || e5 != api.OK || e6 != api.OK {
			t.Errorf("the sale %d: %d, %d, %d, %d, %d, %d, %d", i, e, e1, e2, e3, e4, e5, e6)
		}
		if len(l) != len(s.Offers) || len(taken) != len(s.Offers) {
			t.Errorf("the sale %d: %v, %v", i, l, taken)
		}
	}
}

func TestSellAndWorth(t *testing.T) { // P4.1
	least := func(n int, s api.AuctionSale) api.AuctionSale {
		s.Least = n
		return s
	}
	for i, x := range []struct {
		s     api.AuctionSale
		want  []api.AuctionDeal
		worth int
	}{
		{quay(3), deals(1, 10, 2, 22, 0, 0), 49},
		{quay(6), deals(3, 12, 2, 8, 1, 4), 76},
		{quay(2), deals(1, 14, 1, 12, 0, 0), 35},
		{quay(7), deals(3, 12, 2, 8, 1, 4), 80}, // a cran is left that nobody gets
		{quay(40), deals(3, 12, 2, 8, 1, 4), 212},
		{quay(4), deals(2, 14, 2, 15, 0, 0), 61}, // 10 and 4; 10 and 5
		{quay(5), deals(2, 8, 2, 9, 1, 5), 71},   // 4 and 4, as the 5 is their own; 5 and 4; 5
		{quay(1), deals(1, 15, 0, 0, 0, 0), 20},
		{quay(0), deals(0, 0, 0, 0, 0, 0), 0},
		{least(13, quay(3)), deals(1, 13, 2, 26, 0, 0), 49}, // nobody else would get their crans
		{least(12, quay(3)), deals(1, 12, 2, 24, 0, 0), 49}, // 12 is a bid, of the buyer 0; 12 and Least
		{least(3, quay(7)), deals(3, 9, 2, 6, 2, 6), 79},    // just Least is a bid
		{least(0, quay(7)), deals(3, 0, 2, 0, 2, 0), 79},
		{least(21, quay(3)), deals(0, 0, 0, 0, 0, 0), 63},
		{least(20, quay(3)), deals(1, 20, 0, 0, 0, 0), 60},
		{most(), deals(40, 400000, 0, 0, 0, 0, 0, 0, 0, 0, 0, 0, 0, 0, 0, 0), 400000},
		{least(0, most()), deals(40, 400000, 0, 0, 0, 0, 0, 0, 0, 0, 0, 0, 0, 0, 0, 0), 400000},
		{api.AuctionSale{Crans: 5, Least: 7, Offers: [][]int{{9, 7, 6}}}, deals(2, 14), 37},
		{api.AuctionSale{Crans: 2, Least: 3, Offers: [][]int{nil}}, deals(0, 0), 6},
		{api.AuctionSale{Crans: 2, Offers: [][]int{{0, 0, 0}}}, deals(2, 0), 0}, // 0 is an offer, and a bid
		{api.AuctionSale{Crans: 2, Offers: [][]int{nil, {0, 0, 0}}}, deals(0, 0, 2, 0), 0},
		// of equal ones that of the buyer with the lesser number comes first, wherever it is in the list
		{api.AuctionSale{Crans: 3, Offers: [][]int{{5}, {5, 5}, {5, 5}}}, deals(1, 5, 2, 10, 0, 0), 15},
		{api.AuctionSale{Crans: 1, Offers: [][]int{{3}, {5}, {5}}}, deals(0, 0, 1, 5, 0, 0), 5},
		{api.AuctionSale{Crans: 3, Offers: [][]int{{9, 8, 5}, {5, 5}}}, deals(3, 10, 0, 0), 22},
		{api.AuctionSale{Crans: 3, Offers: [][]int{{5, 5}, {9, 8, 5}}}, deals(1, 5, 2, 5), 22},
		{api.AuctionSale{Crans: 4, Least: 2, Offers: [][]int{{9, 1}, {8, 1}, {1, 1}}}, deals(1, 2, 1, 2, 0, 0), 21},
	} {
		if l, e := auction.Sell(x.s); !slices.Equal(l, x.want) || e != api.OK {
			t.Errorf("Sell %d: %v, %d", i, l, e)
		}
		if n, e := auction.Worth(x.s); n != x.worth || e != api.OK {
			t.Errorf("Worth %d: %d, %d", i, n, e)
		}
	}
}

func TestGain(t *testing.T) { // P4.2
	over := quay(3)
	over.Offers[0] = []int{20, 15, 5}
	for i, x := range []struct {
		s     api.AuctionSale
		buyer int
		worth []int
		want  int
	}{
		{quay(3), 0, []int{20, 12, 5}, 10},
		{over, 0, []int{20, 12, 5}, 8}, // two crans, for 10 and 14
		{quay(3), 1, []int{15, 14}, 7},
		{quay(3), 1, []int{15, 14, 13}, 7},
		{quay(3), 1, []int{15}, -7}, // the second cran is worth nothing
		{quay(3), 1, nil, -22},
		{quay(3), 1, []int{}, -22},
		{quay(3), 1, []int{0, 0}, -22},
		{quay(3), 2, []int{10000}, 0}, // who gets nothing gains nothing
		{quay(3), 2, nil, 0},
		{quay(6), 2, []int{10000}, 9996},
		{quay(0), 0, []int{20, 12, 5}, 0},
		{most(), 0, slices.Repeat([]int{10000}, 40), 0},
		{most(), 0, slices.Repeat([]int{9999}, 40), -40},
		{most(), 0, nil, -400000},
		{most(), 7, slices.Repeat([]int{10000}, 40), 0},
	} {
		if n, e := auction.Gain(x.s, x.buyer, x.worth); n != x.want || e != api.OK {
			t.Errorf("Gain %d: %d, %d", i, n, e)
		}
	}
	for i, x := range []struct {
		buyer int
		worth []int
	}{
		{3, nil}, {-1, nil}, {8, nil}, {math.MinInt, nil}, {math.MaxInt, nil},
		{0, []int{5, 6}}, {0, []int{9, 6, 6, 7}}, {2, []int{5, 6}}, {0, []int{10001}}, {0, []int{-1}}, {0, []int{5, -1}},
		{0, []int{math.MaxInt}}, {0, []int{math.MinInt}}, {0, make([]int, 41)}, {0, slices.Repeat([]int{10000}, 41)},
	} {
		if n, e := auction.Gain(quay(3), x.buyer, x.worth); n != 0 || e != api.ErrAuctionAsk {
			t.Errorf("the wrong question %d: %d, %d", i, n, e)
		}
	}
}

func TestClock(t *testing.T) { // P4.3
	tie := api.AuctionSale{Crans: 3, Offers: [][]int{{5}, {5, 5}, {6, 5}}}
	free := api.AuctionSale{Crans: 3, Offers: [][]int{{0}, {1, 0, 0}}}
	for i, x := range []struct {
		s     api.AuctionSale
		order []int
		price int // of the sale
		at    int
		taken []int
	}{
		{quay(3), []int{0, 1, 2}, 14, 12, []int{1, 2, 0}},
		{quay(3), []int{0, 1, 2}, 14, 14, []int{1, 2, 0}},
		{quay(3), []int{2, 1, 0}, 14, 15, []int{1, 1, 0}},
		{quay(3), []int{2, 0, 1}, 14, 16, []int{1, 0, 0}},
		{quay(3), []int{1, 2, 0}, 14, 20, []int{1, 0, 0}},
		{quay(3), []int{1, 2, 0}, 14, 21, []int{0, 0, 0}},
		{quay(3), []int{1, 0, 2}, 14, 10000, []int{0, 0, 0}},
		{quay(3), []int{2, 1, 0}, 14, 4, []int{1, 2, 0}},
		{quay(7), []int{0, 1, 2}, 5, 4, []int{3, 2, 1}},
		{quay(7), []int{2, 0, 1}, 5, 6, []int{2, 2, 1}},
		{quay(0), []int{2, 0, 1}, -1, 4, []int{0, 0, 0}},
		{api.AuctionSale{Crans: 9, Least: 21, Offers: quay(0).Offers}, []int{2, 0, 1}, -1, 21, []int{0, 0, 0}},
		{api.AuctionSale{Crans: 9, Offers: [][]int{nil, {}}}, []int{1, 0}, -1, 0, []int{0, 0}},
		{free, []int{0, 1}, 0, 0, []int{1, 2}}, // the clock falls to Least itself
		{free, []int{1, 0}, 0, 0, []int{0, 3}},
		{free, []int{1, 0}, 0, 1, []int{0, 1}},
		{most(), []int{7, 6, 5, 4, 3, 2, 1, 0}, 10000, 10000, []int{0, 0, 0, 0, 0, 0, 0, 40}},
		{most(), []int{3, 6, 5, 4, 7, 2, 1, 0}, 10000, 10000, []int{0, 0, 0, 40, 0, 0, 0, 0}},
		// whoever is called first takes as many as they offered for
		{tie, []int{0, 1, 2}, 5, 5, []int{1, 1, 1}},
		{tie, []int{1, 0, 2}, 5, 5, []int{0, 2, 1}},
		{tie, []int{2, 1, 0}, 5, 0, []int{0, 1, 2}},
		{tie, []int{2, 0, 1}, 5, 6, []int{0, 0, 1}},
	} {
		if n, e := auction.Price(x.s, x.order); n != x.price || e != api.OK {
			t.Errorf("Price %d: %d, %d", i, n, e)
		}
		if l, e := auction.Taken(x.s, x.order, x.at); !slices.Equal(l, x.taken) || e != api.OK {
			t.Errorf("Taken %d: %v, %d", i, l, e)
		}
	}
}

func TestClockWithErrors(t *testing.T) { // P4.3
	for i, order := range [][]int{nil, {}, {0, 1}, {0, 1, 1}, {0, 1, 3}, {0, 1, 2, 2}, {0, 1, 2, 3}, {0, 0, 0}, {-1, 0, 1}, {0, 1, 2, -1}, {1, 2, 3}, {0, math.MinInt, math.MaxInt}, {0, 1, 2, 0, 1, 2}} {
		if n, e := auction.Price(quay(3), order); n != 0 || e != api.ErrAuctionOrder {
			t.Errorf("the wrong order %d: %d, %d", i, n, e)
		}
		for _, price := range []int{12, 3, 10001} {
			if l, e := auction.Taken(quay(3), order, price); len(l) != 0 || e != api.ErrAuctionOrder {
				t.Errorf("the wrong order %d at %d: %v, %d", i, price, l, e)
			}
		}
	}
	for _, price := range []int{3, 0, -1, 10001, math.MinInt, math.MaxInt} {
		if l, e := auction.Taken(quay(3), []int{2, 0, 1}, price); len(l) != 0 || e != api.ErrAuctionAsk {
			t.Errorf("the wrong price %d: %v, %d", price, l, e)
		}
	}
}

func TestSalesAgainstTheOracle(t *testing.T) { // P4.1, P4.2
	each(1500, func(r *rand.Rand, s api.AuctionSale) {
		gets := winnersOf(s)
		l, e := auction.Sell(s)
		if worth, f := auction.Worth(s); worth != worthOf(s) || e != api.OK || f != api.OK || len(l) != len(gets) {
			t.Fatalf("%v: Sell %v, %d; Worth %d, %d; not %d", s, l, e, worth, f, worthOf(s))
		}
		for buyer, d := range l {
			if want := (api.AuctionDeal{Crans: gets[buyer], Pays: lostBy(s, buyer)}); d != want {
				t.Fatalf("%v: Sell %v; of %d not %v", s, l, buyer, want)
			}
			worth, is := anyPrices(r, 12), 0
			for _, n := range worth[:min(d.Crans, len(worth))] {
				is += n
			}
			if n, e := auction.Gain(s, buyer, worth); n != is-d.Pays || e != api.OK {
				t.Fatalf("%v: Gain of %d with %v: %d, %d; not %d", s, buyer, worth, n, e, is-d.Pays)
			}
		}
	})
}

func TestClockAgainstTheOracle(t *testing.T) { // P4.3
	each(300, func(r *rand.Rand, s api.AuctionSale) {
		order := r.Perm(len(s.Offers))
		for range 8 {
			price := anyPrice(r, s)
			want, _ := takenBy(s, order, price)
			if l, e := auction.Taken(s, order, price); !slices.Equal(l, want) || e != api.OK {
				t.Fatalf("%v: Taken in the order %v at %d: %v, %d; not %v", s, order, price, l, e, want)
			}
		}
		_, last := takenBy(s, order, s.Least)
		if n, e := auction.Price(s, order); n != last || e != api.OK {
			t.Fatalf("%v: Price in the order %v: %d, %d; not %d", s, order, n, e, last)
		}
	})
}

// deep is a copy of a sale that shares no memory with it.
func deep(s api.AuctionSale) api.AuctionSale {
	l := make([][]int, len(s.Offers))
	for i, offers := range s.Offers {
		l[i] = slices.Clone(offers)
	}
	s.Offers = l
	return s
}

// Arguments are as they were, also behind the end of a list, a nil list is an empty one, and two calls share no memory.
func TestMemory(t *testing.T) { // P4.5, P2, R3, R4
	s, order, worth := quay(3), append(make([]int, 0, 20), 2, 0, 1), append(make([]int, 0, 20), 20, 12)
	room := append(make([][]int, 0, 20), append(s.Offers, []int{7, 7})...)
	s.Offers = room[:3]
	for i, offers := range s.Offers {
		s.Offers[i] = append(make([]int, 0, 60), offers...)
	}
	before := deep(s)
	call := func() []any {
		a, _ := auction.Sell(s)
		b, _ := auction.Taken(s, order, 14)
		c, _ := auction.Worth(s)
		d, _ := auction.Gain(s, 0, worth)
		e, _ := auction.Price(s, order)
		return []any{a, b, c, d, e}
	}
	want, first := call(), call()
	clear(first[0].([]api.AuctionDeal)[:cap(first[0].([]api.AuctionDeal))])
	clear(first[1].([]int)[:cap(first[1].([]int))])
	auction.Sell(most())
	auction.Taken(most(), inTurn(8), 10000)
	if got := call(); !reflect.DeepEqual(got, want) {
		t.Errorf("called again: %v, not %v", got, want)
	}
	if !reflect.DeepEqual(s, before) || !slices.Equal(order, []int{2, 0, 1}) || !slices.Equal(worth, []int{20, 12}) || !slices.Equal(room[3], []int{7, 7}) {
		t.Errorf("an argument has changed: %v, %v, %v, %v", s, order, worth, room)
	}
	behind := slices.Concat(order[3:cap(order)], worth[2:cap(worth)])
	for _, offers := range s.Offers {
		behind = append(behind, offers[len(offers):cap(offers)]...)
	}
	for _, n := range behind {
		if n != 0 {
			t.Errorf("%d was written behind an argument", n)
		}
	}
	for _, offers := range room[4:cap(room)] {
		if offers != nil {
			t.Errorf("%v was written behind the buyers", offers)
		}
	}
	none, empty := quay(3), quay(3)
	none.Offers[1], empty.Offers[1] = nil, []int{}
	a, e := auction.Sell(none)
	if b, f := auction.Sell(empty); !slices.Equal(a, b) || len(a) != 3 || e != api.OK || f != api.OK {
		t.Errorf("a nil list: %v, %d; an empty one: %v, %d", a, e, b, f)
	}
}

// A list of a result that grows does not reach another one, and an argument that is changed later does not change a result.
func TestMemoryAfterwards(t *testing.T) { // P4.5, R4
	s := quay(3)
	l, _ := auction.Sell(s)
	taken, _ := auction.Taken(s, []int{0, 1, 2}, 14)
	s.Offers[0][0], s.Offers[1] = 12, nil
	auction.Sell(s)
	if !slices.Equal(l, deals(1, 10, 2, 22, 0, 0)) || !slices.Equal(taken, []int{1, 2, 0}) {
		t.Errorf("results have changed: %v, %v", l, taken)
	}
	if l, e := auction.Sell(s); !slices.Equal(l, deals(2, 8, 0, 0, 1, 5)) || e != api.OK {
		t.Errorf("an argument is kept: %v, %d", l, e)
	}
}
