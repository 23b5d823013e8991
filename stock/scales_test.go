package stock_test

import (
	"math"
	"math/rand/v2"
	"testing"

	"drifter/api"
	"drifter/stock"
)

func scales() []api.StockScale {
	return []api.StockScale{group(30, 2, 2), group(20, 3, 4), group(10, 4, 6)}
}

func TestAged(t *testing.T) { // P9.1, R3
	great := make([]api.StockScale, 20)
	for i := range great {
		great[i] = group(10000, 0, 20)
	}
	for i, x := range []struct {
		l        []api.StockScale
		from, to int
		want     api.Span
	}{
		{scales(), 4, 6, to(10, 30)}, {scales(), 3, 4, to(20, 30)}, {scales(), 2, 2, to(30, 30)},
		{scales(), 0, 20, to(60, 60)}, {scales(), 2, 6, to(60, 60)}, {scales(), 0, 1, to(0, 0)}, {scales(), 7, 20, to(0, 0)},
		{scales(), 0, 2, to(30, 30)}, {scales(), 0, 3, to(30, 50)}, {scales(), 0, 4, to(50, 60)}, {scales(), 0, 5, to(50, 60)},
		{scales(), 6, 20, to(0, 10)}, {scales(), 5, 5, to(0, 10)}, {scales(), 4, 20, to(10, 30)}, {scales(), 4, 4, to(0, 30)},
		{nil, 0, 0, to(0, 0)}, {[]api.StockScale{}, 0, 20, to(0, 0)}, {nil, 20, 20, to(0, 0)},
		{[]api.StockScale{{}}, 0, 0, to(0, 0)}, {[]api.StockScale{group(1, 0, 0)}, 0, 0, to(1, 1)}, {[]api.StockScale{group(1, 0, 0)}, 1, 1, to(0, 0)},
		{[]api.StockScale{group(1, 20, 20)}, 20, 20, to(1, 1)}, {[]api.StockScale{group(1, 20, 20)}, 0, 19, to(0, 0)},
		{[]api.StockScale{group(7, 3, 5), group(7, 3, 5)}, 3, 5, to(14, 14)}, {[]api.StockScale{group(7, 3, 5), group(7, 3, 5)}, 5, 9, to(0, 14)},
		{[]api.StockScale{group(7, 3, 9)}, 4, 5, to(0, 7)}, // what is asked for lies within what is read
		{great, 0, 20, to(200000, 200000)}, {great, 0, 19, to(0, 200000)},
	} {
		if s, e := stock.Aged(x.l, x.from, x.to); s != x.want || e != api.OK {
			t.Errorf("Aged %d: %v, %d, not %v", i, s, e, x.want)
		}
	}
}

func TestWrongScales(t *testing.T) { // P9.1, R1, R2
	for i, l := range [][]api.StockScale{
		make([]api.StockScale, 21), append(scales(), make([]api.StockScale, 18)...),
		{group(-1, 2, 2)}, {group(10001, 2, 2)}, {group(math.MinInt, 2, 2)}, {group(math.MaxInt, 2, 2)},
		{group(1, -1, 2)}, {group(1, 2, 21)}, {group(1, 3, 2)}, {group(0, 3, 2)}, {group(1, -2, -1)}, {group(1, 21, 21)},
		{group(1, math.MinInt, math.MaxInt)}, {group(1, math.MaxInt, math.MinInt)}, {group(1, 0, math.MaxInt)}, {group(1, math.MinInt, 0)},
		append(scales(), group(1, 1, 0)), append([]api.StockScale{group(1, 1, 0)}, scales()...),
	} {
		for _, x := range [][2]int{{0, 20}, {-1, 4}, {4, 3}, {0, 21}} {
			if s, e := stock.Aged(l, x[0], x[1]); s != to(0, 0) || e != api.ErrStockScale {
				t.Errorf("Aged of the wrong scales %d, %v: %v, %d", i, x, s, e)
			}
		}
	}
	for _, x := range [][2]int{{-1, 4}, {5, 4}, {0, 21}, {20, 21}, {21, 21}, {21, 20}, {0, -1}, {-2, -1}, {math.MinInt, 3}, {3, math.MaxInt}, {math.MaxInt, math.MinInt}, {math.MinInt, math.MaxInt}, {math.MinInt, math.MinInt}, {math.MaxInt, math.MaxInt}} {
		for _, l := range [][]api.StockScale{scales(), nil} {
			if s, e := stock.Aged(l, x[0], x[1]); s != to(0, 0) || e != api.ErrRange {
				t.Errorf("Aged of %v, %v: %v, %d", l, x, s, e)
			}
		}
	}
}

// All ages of all fish of a few small groups are gone through.
func TestAllTruths(t *testing.T) { // P9.1
	r := rand.New(rand.NewPCG(9, 1))
	doubtful := 0
	for range 1000 {
		l := anyScales(r, 3, 2, 4)
		for from := range 6 {
			for last := from; last < 6; last++ {
				want, first := to(0, 0), true
				truths(l, func(ages []int) {
					n := counted(ages, from, last)
					if first {
						want, first = to(n, n), false
					}
					want = to(min(want.Low, n), max(want.High, n))
				})
				if s, e := stock.Aged(l, from, last); s != want || e != api.OK {
					t.Fatalf("Aged of %v, %d, %d: %v, %d, not %v", l, from, last, s, e, want)
				}
				if want.Low != want.High {
					doubtful++
				}
			}
		}
	}
	if doubtful < 1000 {
		t.Errorf("only %d numbers are in doubt", doubtful)
	}
}
