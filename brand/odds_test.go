package brand_test

import (
	"math"
	"math/big"
	"math/rand/v2"
	"testing"

	"drifter/api"
	"drifter/brand"
)

func TestOdds(t *testing.T) { // P7.2
	for i, x := range []struct {
		barrels, below int
		p              api.BrandPlan
		want           api.BrandOdds
	}{
		{10, 5, opens(5, 1), of(13, 126)}, {10, 5, opens(6, 1), of(1, 42)}, {10, 5, opens(0, 0), of(1, 1)},
		{10, 5, opens(5, 0), of(1, 252)}, {10, 5, opens(5, 4), of(251, 252)}, {10, 5, opens(5, 5), of(1, 1)}, {10, 5, opens(6, 0), of(0, 1)},
		{10, 1, opens(3, 0), of(7, 10)}, {10, 1, opens(3, 1), of(1, 1)}, {10, 0, opens(10, 0), of(1, 1)}, {10, 0, opens(0, 0), of(1, 1)}, {10, 10, opens(0, 0), of(1, 1)},
		{10, 10, opens(1, 0), of(0, 1)}, {10, 10, opens(10, 9), of(0, 1)}, {10, 10, opens(10, 10), of(1, 1)}, {10, 9, opens(10, 9), of(1, 1)}, {10, 9, opens(10, 8), of(0, 1)},
		{1, 0, opens(0, 0), of(1, 1)}, {1, 0, opens(1, 0), of(1, 1)}, {1, 1, opens(1, 0), of(0, 1)}, {1, 1, opens(1, 1), of(1, 1)},
		{4, 2, opens(2, 0), of(1, 6)}, {4, 2, opens(2, 1), of(5, 6)}, {5, 2, opens(2, 0), of(3, 10)}, {6, 4, opens(3, 1), of(1, 5)}, {40, 1, opens(20, 0), of(1, 2)}, {40, 2, opens(20, 0), of(19, 78)},
		{40, 20, opens(20, 0), of(1, 137846528820)}, {40, 20, opens(20, 19), of(137846528819, 137846528820)}, {40, 20, opens(20, 20), of(1, 1)}, {40, 40, opens(40, 39), of(0, 1)},
	} {
		if o, e := brand.Odds(x.barrels, x.below, x.p); o != x.want || e != api.OK {
			t.Errorf("Odds %d: %v, %d", i, o, e)
		}
	}
}

func TestOddsThatAreWrong(t *testing.T) { // P7.2
	for i, x := range []struct {
		barrels, below int
		p              api.BrandPlan
		e              api.Errno
	}{
		{0, 0, opens(0, 0), api.ErrRange}, {41, 0, opens(0, 0), api.ErrRange}, {-1, -1, opens(0, 0), api.ErrRange}, {math.MaxInt, 5, opens(5, 1), api.ErrRange}, {math.MinInt, 5, opens(5, 1), api.ErrRange},
		{10, 11, opens(0, 0), api.ErrRange}, {10, -1, opens(0, 0), api.ErrRange}, {40, 41, opens(5, 1), api.ErrRange}, {10, math.MaxInt, opens(5, 1), api.ErrRange}, {10, math.MinInt, opens(5, 1), api.ErrRange},
		{41, 42, opens(43, 44), api.ErrRange}, {10, -1, opens(-1, 0), api.ErrRange}, {0, 0, opens(1, 0), api.ErrRange},
		{10, 5, opens(11, 0), api.ErrBrandPlan}, {10, 5, opens(-1, 0), api.ErrBrandPlan}, {10, 5, opens(-1, -1), api.ErrBrandPlan}, {10, 5, opens(5, 6), api.ErrBrandPlan}, {10, 5, opens(5, -1), api.ErrBrandPlan}, {10, 5, opens(0, 1), api.ErrBrandPlan}, {40, 5, opens(41, 1), api.ErrBrandPlan},
		{10, 5, opens(math.MaxInt, 1), api.ErrBrandPlan}, {10, 5, opens(math.MinInt, math.MinInt), api.ErrBrandPlan}, {10, 5, opens(5, math.MaxInt), api.ErrBrandPlan}, {10, 5, opens(5, math.MinInt), api.ErrBrandPlan},
	} {
		if o, e := brand.Odds(x.barrels, x.below, x.p); o != of(0, 0) || e != x.e {
			t.Errorf("Odds %d: %v, %d", i, o, e)
		}
	}
}

// isReduced reports whether o are these odds, and reduced. (An odd of 0 is 0 of 1, one of 1 is 1 of 1.)
func isReduced(o api.BrandOdds, want *big.Rat) bool {
	return want.Num().Cmp(big.NewInt(int64(o.Of))) == 0 && want.Denom().Cmp(big.NewInt(int64(o.In))) == 0
}

func TestOddsOfAny(t *testing.T) { // P7.2
	k := teller{}
	for barrels := 1; barrels <= 15; barrels++ {
		for below := range barrels + 1 {
			for open := range barrels + 1 {
				for allow := range open + 1 {
					want := k.atMost(barrels, below, open, allow)
					if o, e := brand.Odds(barrels, below, opens(open, allow)); !isReduced(o, want) || e != api.OK {
						t.Fatalf("Odds of %d, %d, %d, %d: %v, %d, not %v", barrels, below, open, allow, o, e, want)
					}
				}
			}
		}
	}
	r := rand.New(rand.NewPCG(7, 2))
	for range 3000 {
		barrels := between(r, 16, api.BrandBarrels)
		below, p := between(r, 0, barrels), anyPlan(r, barrels)
		want := k.atMost(barrels, below, p.Open, p.Allow)
		if o, e := brand.Odds(barrels, below, p); !isReduced(o, want) || e != api.OK {
			t.Fatalf("Odds of %d, %d, %v: %v, %d, not %v", barrels, below, p, o, e, want)
		}
	}
}

func TestBelow(t *testing.T) { // P7.5
	for i, x := range []struct {
		barrels, opened, found int
		doubt                  api.BrandOdds
		want                   api.Span
		e                      api.Errno
	}{
		{10, 6, 1, of(1, 10), to(1, 4), api.OK}, {10, 10, 1, of(1, 10), to(1, 1), api.OK},
		{10, 0, 0, of(1, 10), to(0, 10), api.OK}, {10, 0, 0, of(0, 1), to(0, 10), api.OK}, {10, 0, 0, of(999, 1000), to(0, 10), api.OK}, {10, 0, 0, of(1, 1), api.Span{}, api.ErrNone},
		{10, 6, 1, of(0, 1), to(1, 5), api.OK}, {10, 6, 0, of(0, 7), to(0, 4), api.OK}, {10, 6, 6, of(0, 1), to(6, 10), api.OK},
		// odds that are just as much as the doubt are not more: 1 of 6 for none of two below, 5 of 6 for one
		{4, 2, 0, of(1, 6), to(0, 1), api.OK}, {4, 2, 0, of(10, 60), to(0, 1), api.OK}, {4, 2, 0, of(1, 7), to(0, 2), api.OK}, {4, 2, 0, of(166, 1000), to(0, 2), api.OK}, {4, 2, 0, of(167, 1000), to(0, 1), api.OK},
		{4, 2, 2, of(1, 6), to(3, 4), api.OK}, {4, 2, 2, of(1, 7), to(2, 4), api.OK}, {4, 2, 1, of(4, 5), to(2, 2), api.OK}, {4, 2, 1, of(5, 6), api.Span{}, api.ErrNone}, {4, 2, 1, of(9, 10), api.Span{}, api.ErrNone},
		{10, 10, 10, of(999, 1000), to(10, 10), api.OK}, {10, 10, 0, of(0, 1000), to(0, 0), api.OK}, {10, 10, 5, of(1000, 1000), api.Span{}, api.ErrNone},
		{1, 1, 0, of(1, 2), to(0, 0), api.OK}, {1, 1, 1, of(1, 2), to(1, 1), api.OK}, {1, 0, 0, of(1, 2), to(0, 1), api.OK},
		{40, 20, 10, of(0, 1), to(10, 30), api.OK}, {40, 39, 20, of(0, 1), to(20, 21), api.OK}, {40, 1, 1, of(39, 40), to(40, 40), api.OK}, {40, 1, 1, of(38, 40), to(39, 40), api.OK}, {40, 1, 0, of(39, 40), to(0, 0), api.OK},
	} {
		if s, e := brand.Below(x.barrels, x.opened, x.found, x.doubt); s != x.want || e != x.e {
			t.Errorf("Below %d: %v, %d", i, s, e)
		}
	}
}

func TestBelowThatIsWrong(t *testing.T) { // P7.5
	for i, x := range []struct {
		barrels, opened, found int
		doubt                  api.BrandOdds
		e                      api.Errno
	}{
		{0, 0, 0, of(1, 10), api.ErrRange}, {41, 6, 1, of(1, 10), api.ErrRange}, {-1, 0, 0, of(1, 10), api.ErrRange}, {math.MaxInt, 6, 1, of(1, 10), api.ErrRange}, {math.MinInt, 6, 1, of(1, 10), api.ErrRange},
		{10, 11, 0, of(1, 10), api.ErrRange}, {10, -1, 0, of(1, 10), api.ErrRange}, {10, -1, -1, of(1, 10), api.ErrRange}, {10, math.MaxInt, 0, of(1, 10), api.ErrRange}, {10, math.MinInt, 0, of(1, 10), api.ErrRange},
		{10, 6, 7, of(1, 10), api.ErrRange}, {10, 6, -1, of(1, 10), api.ErrRange}, {10, 0, 1, of(1, 10), api.ErrRange}, {10, 6, math.MaxInt, of(1, 10), api.ErrRange}, {10, 6, math.MinInt, of(1, 10), api.ErrRange},
		{0, 0, 0, of(0, 0), api.ErrRange}, {10, 11, 0, of(2, 1), api.ErrRange}, {10, 6, 7, of(-1, 1), api.ErrRange},
		{10, 6, 1, of(0, 0), api.ErrBrandRule}, {10, 6, 1, of(1, 0), api.ErrBrandRule}, {10, 6, 1, of(2, 1), api.ErrBrandRule}, {10, 6, 1, of(-1, 1), api.ErrBrandRule}, {10, 6, 1, of(1, 1001), api.ErrBrandRule}, {10, 6, 1, of(0, -1), api.ErrBrandRule}, {10, 6, 1, of(-1, -1), api.ErrBrandRule},
		{10, 6, 1, of(math.MinInt, math.MinInt), api.ErrBrandRule}, {10, 6, 1, of(math.MaxInt, 1000), api.ErrBrandRule}, {10, 6, 1, of(0, math.MaxInt), api.ErrBrandRule}, {10, 6, 1, of(math.MinInt, 1000), api.ErrBrandRule}, {10, 10, 1, of(1001, 1000), api.ErrBrandRule},
	} {
		if s, e := brand.Below(x.barrels, x.opened, x.found, x.doubt); s != to(0, 0) || e != x.e {
			t.Errorf("Below %d: %v, %d", i, s, e)
		}
	}
}

func TestBelowOfAny(t *testing.T) { // P7.5
	r, k := rand.New(rand.NewPCG(7, 5)), teller{}
	told, not := 0, 0
	for i := range 4000 {
		barrels := between(r, 1, 10)
		if i%4 == 0 {
			barrels = between(r, 11, api.BrandBarrels)
		}
		opened := between(r, 0, barrels)
		found, doubt := between(r, 0, opened), anyOdds(r, 0.1)
		if some := k.atMost(barrels, between(r, 0, barrels), opened, found); i%3 == 0 && some.Denom().Cmp(big.NewInt(api.BrandMost)) <= 0 {
			doubt = of(int(some.Num().Int64()), int(some.Denom().Int64())) // it decides by being the same
		}
		can := k.told(barrels, opened, found, doubt)
		s, e := brand.Below(barrels, opened, found, doubt)
		if len(can) == 0 {
			not++
			if s != to(0, 0) || e != api.ErrNone {
				t.Fatalf("Below of %d, %d, %d, %v: %v, %d", barrels, opened, found, doubt, s, e)
			}
			continue
		}
		told++
		if s != to(can[0], can[len(can)-1]) || e != api.OK {
			t.Fatalf("Below of %d, %d, %d, %v: %v, %d, not %v", barrels, opened, found, doubt, s, e, can)
		}
	}
	if told < 500 || not < 200 {
		t.Errorf("only %d times it can be told, %d times it can not", told, not)
	}
}
