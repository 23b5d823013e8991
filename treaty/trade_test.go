package treaty_test

import (
	"math"
	"math/rand/v2"
	"slices"
	"testing"

	"drifter/api"
	"drifter/treaty"
)

// trade is that of the document, with some room in the country 0.
func trade(room int) api.TreatyTrade {
	return api.TreatyTrade{Curers: [][]int{{0, 1}, {0}, {0, 1}}, Countries: []api.TreatyCountry{country(room, 1, 2, 0), country(1, 0, 1, 2)}}
}

// cross is of two curers and two countries that like each other crosswise: two lists of deals are stable.
func cross() api.TreatyTrade {
	return api.TreatyTrade{Curers: [][]int{{0, 1}, {1, 0}}, Countries: []api.TreatyCountry{country(1, 1, 0), country(1, 0, 1)}}
}

// most is of as many curers and countries as there can be, who like each other alike.
func most(room int) api.TreatyTrade {
	return api.TreatyTrade{Curers: slices.Repeat([][]int{first(5)}, 8), Countries: slices.Repeat([]api.TreatyCountry{country(room, first(8)...)}, 5)}
}

func TestDeals(t *testing.T) { // P10.3
	shy := trade(1)
	shy.Curers = [][]int{nil, {}, nil}
	none := trade(0)
	none.Curers[0] = nil
	against := most(1)
	for k := range against.Countries {
		slices.Reverse(against.Countries[k].Likes)
	}
	for i, x := range []struct {
		t    api.TreatyTrade
		want []int
	}{
		{trade(1), []int{1, 0, -1}}, {trade(2), []int{1, 0, 0}}, {trade(3), []int{0, 0, 0}}, {trade(8), []int{0, 0, 0}}, {trade(0), []int{1, -1, -1}}, {none, []int{-1, -1, 1}},
		{cross(), []int{0, 1}}, {shy, []int{-1, -1, -1}},
		{api.TreatyTrade{Curers: [][]int{{0}}, Countries: []api.TreatyCountry{country(1, 0)}}, []int{0}}, {api.TreatyTrade{Curers: [][]int{{0}}, Countries: []api.TreatyCountry{country(0, 0)}}, []int{-1}}, {api.TreatyTrade{Curers: [][]int{nil}, Countries: []api.TreatyCountry{country(8, 0)}}, []int{-1}},
		{most(1), []int{0, 1, 2, 3, 4, -1, -1, -1}}, {most(2), []int{0, 0, 1, 1, 2, 2, 3, 3}}, {most(3), []int{0, 0, 0, 1, 1, 1, 2, 2}}, {most(8), make([]int, 8)}, {most(0), slices.Repeat([]int{-1}, 8)}, {against, []int{-1, -1, -1, 4, 3, 2, 1, 0}},
		// the curer 0 is refused by 0 only when 1 was refused by 1, and then gets 1 nonetheless
		{api.TreatyTrade{Curers: [][]int{{0, 1}, {1, 0}, {1}}, Countries: []api.TreatyCountry{country(1, 1, 0, 2), country(1, 0, 2, 1)}}, []int{1, 0, -1}},
		// a chain of refusals: the last curer takes the place of the one before, and so on
		{api.TreatyTrade{Curers: [][]int{{0, 1}, {1, 2}, {2, 3}, {3}, {0}}, Countries: []api.TreatyCountry{country(1, 4, 0, 1, 2, 3), country(1, 0, 1, 2, 3, 4), country(1, 1, 2, 0, 3, 4), country(1, 2, 3, 0, 1, 4)}}, []int{1, 2, 3, -1, 0}},
		// a country that likes a curer best gets nothing of it, if the curer would not sell to it
		{api.TreatyTrade{Curers: [][]int{{1}, {0, 1}}, Countries: []api.TreatyCountry{country(1, 0, 1), country(1, 1, 0)}}, []int{1, 0}},
	} {
		l, e := treaty.Deals(x.t)
		is, f := treaty.Stable(x.t, x.want)
		if g := treaty.CheckTrade(x.t); !slices.Equal(l, x.want) || e != api.OK || !is || f != api.OK || g != api.OK {
			t.Errorf("Deals %d: %v, %d; %v, %d; %d", i, l, e, is, f, g)
		}
	}
}

func TestStable(t *testing.T) { // P10.3
	for i, x := range []struct {
		t     api.TreatyTrade
		deals []int
		want  bool
	}{
		{trade(1), []int{1, 0, -1}, true}, {trade(1), []int{0, -1, 1}, false}, {cross(), []int{0, 1}, true}, {cross(), []int{1, 0}, true},
		// to a country that is not in the list, also where all else is so
		{trade(1), []int{1, 1, 0}, false}, {trade(1), []int{0, 1, -1}, false}, {trade(0), []int{-1, 1, -1}, false}, {api.TreatyTrade{Curers: [][]int{nil}, Countries: []api.TreatyCountry{country(1, 0)}}, []int{0}, false}, {api.TreatyTrade{Curers: [][]int{nil}, Countries: []api.TreatyCountry{country(1, 0)}}, []int{-1}, true},
		// more than there is room for
		{trade(1), []int{1, 0, 0}, false}, {trade(0), []int{1, 0, -1}, false}, {trade(2), []int{0, 0, 0}, false}, {cross(), []int{0, 0}, false}, {cross(), []int{1, 1}, false}, {most(1), []int{0, 1, 2, 3, 4, 4, -1, -1}, false},
		// there is room that somebody would like
		{cross(), []int{0, -1}, false}, {cross(), []int{-1, 1}, false}, {cross(), []int{-1, -1}, false}, {trade(1), []int{-1, -1, -1}, false}, {trade(3), []int{1, 0, 0}, false}, {trade(3), []int{0, 0, 1}, false}, {trade(2), []int{-1, 0, 0}, false}, {most(2), []int{0, 0, 1, 1, 2, 2, 3, 4}, false},
		// there is room that nobody would like
		{trade(3), []int{0, 0, 0}, true}, {most(8), make([]int, 8), true},
		// a country takes one whom it likes less
		{trade(1), []int{-1, 0, 1}, false}, {trade(1), []int{0, -1, -1}, false}, {trade(2), []int{0, 0, 1}, false}, {trade(2), []int{1, 0, 0}, true}, {trade(0), []int{-1, -1, 1}, false}, {trade(0), []int{1, -1, -1}, true}, {most(1), []int{0, 1, 2, 3, -1, 4, -1, -1}, false}, {most(1), []int{1, 0, 2, 3, 4, -1, -1, -1}, false}, {most(2), []int{0, 1, 0, 1, 2, 2, 3, 3}, false},
		// there is no room at all
		{most(0), slices.Repeat([]int{-1}, 8), true}, {most(0), append([]int{0}, slices.Repeat([]int{-1}, 7)...), false},
	} {
		if is, e := treaty.Stable(x.t, x.deals); is != x.want || e != api.OK {
			t.Errorf("Stable %d: %v, %d", i, is, e)
		}
	}
}

// askTrade returns the errors of all functions with a trade, and whether they tell nothing.
func askTrade(x api.TreatyTrade, deals []int) (errors [3]api.Errno, nothing bool) {
	is, f := treaty.Stable(x, deals)
	l, g := treaty.Deals(x)
	return [3]api.Errno{treaty.CheckTrade(x), f, g}, !is && l == nil
}

// wrongTrades change the document's trade to what is none.
func wrongTrades() []func(x *api.TreatyTrade) {
	all := []func(x *api.TreatyTrade){
		func(x *api.TreatyTrade) { *x = api.TreatyTrade{} },
		func(x *api.TreatyTrade) { x.Curers = nil }, func(x *api.TreatyTrade) { x.Curers = [][]int{} }, func(x *api.TreatyTrade) { x.Countries = nil }, func(x *api.TreatyTrade) { x.Countries = []api.TreatyCountry{} },
		func(x *api.TreatyTrade) {
			*x = api.TreatyTrade{Curers: make([][]int, 9), Countries: []api.TreatyCountry{country(1, first(9)...)}}
		},
		func(x *api.TreatyTrade) {
			*x = api.TreatyTrade{Curers: make([][]int, 1), Countries: slices.Repeat([]api.TreatyCountry{country(1, 0)}, 6)}
		},
		func(x *api.TreatyTrade) {
			*x = api.TreatyTrade{Curers: nil, Countries: []api.TreatyCountry{country(1)}}
		},
		func(x *api.TreatyTrade) { *x = api.TreatyTrade{Curers: make([][]int, 3)} },
		func(x *api.TreatyTrade) { x.Curers = x.Curers[:2] }, func(x *api.TreatyTrade) { x.Curers = append(x.Curers, nil) }, func(x *api.TreatyTrade) { x.Countries = x.Countries[:1] },
		func(x *api.TreatyTrade) { x.Countries = append(x.Countries, api.TreatyCountry{}) },
		func(x *api.TreatyTrade) { x.Curers[0] = []int{0, 0} }, func(x *api.TreatyTrade) { x.Curers[1] = []int{1, 0, 1} }, func(x *api.TreatyTrade) { x.Curers[2] = []int{0, 1, 1} }, func(x *api.TreatyTrade) { x.Curers[0] = []int{0, 1, 2} }, func(x *api.TreatyTrade) { x.Curers[2] = make([]int, 1000) },
		func(x *api.TreatyTrade) { x.Countries[1].Likes = []int{0, 1} }, func(x *api.TreatyTrade) { x.Countries[0].Likes = nil }, func(x *api.TreatyTrade) { x.Countries[1].Likes = []int{0, 1, 2, 0} }, func(x *api.TreatyTrade) { x.Countries[0].Likes = []int{0, 1, 1} }, func(x *api.TreatyTrade) { x.Countries[1].Likes = []int{2, 1, 2} }, func(x *api.TreatyTrade) { x.Countries[1].Likes = first(4) },
	}
	for _, n := range []int{-1, 9, math.MinInt, math.MaxInt, 1 << 32, -1 << 32} {
		all = append(all, func(x *api.TreatyTrade) { x.Countries[0].Room = n }, func(x *api.TreatyTrade) { x.Countries[1].Room = n })
	}
	for _, n := range []int{-1, 2, 5, math.MinInt, math.MaxInt, 1 << 32, -1 << 32} {
		all = append(all, func(x *api.TreatyTrade) { x.Curers[0] = []int{n} }, func(x *api.TreatyTrade) { x.Curers[2][1] = n })
	}
	for _, n := range []int{-1, 3, 8, math.MinInt, math.MaxInt, 1 << 32, -1 << 32} {
		all = append(all, func(x *api.TreatyTrade) { x.Countries[0].Likes[0] = n }, func(x *api.TreatyTrade) { x.Countries[1].Likes[2] = n })
	}
	return all
}

func TestWrongTrades(t *testing.T) { // P10.3, R1, R2
	wrong := [3]api.Errno{api.ErrTreatyTrade, api.ErrTreatyTrade, api.ErrTreatyTrade}
	for i, change := range wrongTrades() {
		x := trade(1)
		change(&x)
		// the trade is wrong whatever is asked
		for _, deals := range [][]int{nil, {1, 0, -1}, {1, 0, 2}, {1, 0}, {math.MinInt}} {
			if e, nothing := askTrade(x, deals); e != wrong || !nothing {
				t.Errorf("the wrong trade %d: %v, %v", i, e, nothing)
			}
		}
	}
	if e, _ := askTrade(trade(1), []int{1, 0, -1}); e != [3]api.Errno{} {
		t.Errorf("the trade of the document: %v", e)
	}
}

func TestWrongDeals(t *testing.T) { // P10.3, R1, R2
	for _, x := range []api.TreatyTrade{trade(1), cross(), most(2)} {
		curers, countries := len(x.Curers), len(x.Countries)
		right := slices.Repeat([]int{-1}, curers)
		wrong := [][]int{nil, {}, right[1:], append(slices.Clone(right), -1), append(slices.Clone(right), 0)}
		for _, n := range []int{-2, countries, 5, math.MinInt, math.MaxInt, 1 << 32, -1 << 32} {
			wrong = append(wrong, append([]int{n}, right[1:]...), append(slices.Clone(right[1:]), n))
		}
		for _, deals := range wrong {
			if is, e := treaty.Stable(x, deals); is || e != api.ErrTreatyAsk {
				t.Errorf("Stable of the wrong deals %v: %v, %d", deals, is, e)
			}
		}
		for _, deals := range [][]int{right, append([]int{countries - 1}, right[1:]...), append(slices.Clone(right[1:]), countries-1)} {
			if is, e := treaty.Stable(x, deals); is || e != api.OK {
				t.Errorf("Stable of %v: %v, %d", deals, is, e)
			}
		}
	}
}

func TestAllDeals(t *testing.T) { // P10.3
	r := rand.New(rand.NewPCG(10, 3))
	stable, several := 0, 0
	for range 6000 {
		x := anyTrade(r, 5, 3)
		many := 0
		allDeals(x, func(deals []int) {
			want := isStable(x, deals)
			if is, e := treaty.Stable(x, deals); is != want || e != api.OK {
				t.Fatalf("Stable of %v, %v: %v, %d", x, deals, is, e)
			}
			if want {
				many++
			}
		})
		stable += many
		if many > 1 {
			several++
		}
	}
	if stable < 6000 || several < 100 {
		t.Errorf("only %d deals are stable, several of %d trades", stable, several)
	}
}
