package auction_test

import (
	"math"
	"math/rand/v2"
	"slices"
	"testing"

	"drifter/api"
	"drifter/auction"
)

func to(low, high int) api.Span { return api.Span{Low: low, High: high} }

// load is the baskets of the chapter's examples.
func load() []api.Span {
	return []api.Span{to(10, 20), to(15, 30), to(18, 19), to(25, 40), to(5, 26)}
}

func TestBasketsThatAreWrong(t *testing.T) { // P4.4
	for i, l := range [][]api.Span{
		nil, {}, make([]api.Span, 41), slices.Repeat([]api.Span{to(0, 1000)}, 41),
		{to(5, 4)}, {to(-1, 5)}, {to(5, 1001)}, {to(-2, -1)}, {to(1001, 1001)}, {to(1001, 1000)}, {to(0, -1)},
		{to(math.MinInt, math.MaxInt)}, {to(math.MaxInt, math.MinInt)}, {to(0, math.MaxInt)}, {to(math.MinInt, 5)},
		append(load(), to(5, 4)), append(load(), to(5, 1001)), append(load(), to(-1, 5)), append([]api.Span{to(6, 5)}, load()...),
	} {
		if lots, e := auction.Lots(l); len(lots) != 0 || e != api.ErrAuctionLoads {
			t.Errorf("Lots of the wrong baskets %d: %v, %d", i, lots, e)
		}
		for _, lots := range [][]int{nil, {0}, {0, 1}, {-1}} {
			if is, e := auction.AreLots(l, lots); is || e != api.ErrAuctionLoads {
				t.Errorf("AreLots of the wrong baskets %d, %v: %v, %d", i, lots, is, e)
			}
		}
	}
}

func TestLots(t *testing.T) { // P4.4
	var ones []api.Span
	var numbers []int
	for n := range 40 {
		ones, numbers = append(ones, to(n, n)), append(numbers, n)
	}
	for i, x := range []struct {
		l    []api.Span
		want []int
	}{
		{load(), []int{0, 3}},
		{load()[2:], []int{0, 1}},
		{[]api.Span{to(0, 0)}, []int{0}},
		{[]api.Span{to(1000, 1000)}, []int{0}},
		{[]api.Span{to(0, 1000), to(1000, 1000), to(0, 0), to(0, 1000)}, []int{0, 2}},
		{[]api.Span{to(0, 5), to(5, 9), to(6, 6)}, []int{0, 2}},
		{[]api.Span{to(5, 9), to(0, 5)}, []int{0}}, // a single number is enough
		{[]api.Span{to(5, 9), to(0, 4)}, []int{0, 1}},
		{[]api.Span{to(1, 1), to(2, 2), to(1, 1)}, []int{0, 1, 2}}, // what follows each other alone
		// each two of these have a number in common, but not all three
		{[]api.Span{to(0, 5), to(4, 9), to(0, 9), to(8, 9), to(0, 1)}, []int{0, 3, 4}},
		// narrow baskets inside wide ones, and the other way round
		{[]api.Span{to(0, 100), to(50, 50), to(40, 60), to(51, 60), to(0, 100), to(60, 70)}, []int{0, 3}},
		{ones, numbers}, {slices.Repeat([]api.Span{to(7, 8)}, 40), []int{0}},
		// a lot has as many baskets as it can: 0 2 are as few
		{[]api.Span{to(0, 3), to(0, 3), to(3, 6), to(4, 6)}, []int{0, 3}},
	} {
		if lots, e := auction.Lots(x.l); !slices.Equal(lots, x.want) || e != api.OK {
			t.Errorf("Lots %d: %v, %d", i, lots, e)
		}
		if is, e := auction.AreLots(x.l, x.want); !is || e != api.OK {
			t.Errorf("AreLots %d: %v, %d", i, is, e)
		}
	}
}

func TestAreLots(t *testing.T) { // P4.4
	for i, x := range []struct {
		lots []int
		want bool
	}{
		{[]int{0, 3}, true}, {[]int{0, 2, 3}, true}, {[]int{0, 1, 3}, true}, {[]int{0, 3, 4}, true}, {[]int{0, 1, 2, 3, 4}, true},
		{[]int{0, 2}, false}, {[]int{0, 4}, false}, {[]int{0, 1}, false}, {[]int{0}, false},
		{nil, false}, {[]int{}, false}, {[]int{1, 3}, false}, {[]int{3}, false}, {[]int{-1, 0, 3}, false}, {[]int{-1, 3}, false},
		{[]int{0, 3, 5}, false}, {[]int{0, 3, 3}, false}, {[]int{0, 0, 3}, false}, {[]int{3, 0}, false}, {[]int{0, 3, 2}, false}, {[]int{0, 3, 6}, false}, {[]int{0, 5}, false},
		{[]int{0, 3, math.MaxInt}, false}, {[]int{0, 3, math.MinInt}, false}, {[]int{math.MinInt, 3}, false}, {[]int{math.MaxInt}, false},
		{[]int{0, math.MaxInt, 3}, false}, {[]int{0, math.MinInt, 3}, false}, {[]int{0, 3, 4, 5, 6, 7}, false}, {make([]int, 50), false},
	} {
		if is, e := auction.AreLots(load(), x.lots); is != x.want || e != api.OK {
			t.Errorf("AreLots %d: %v, %d", i, is, e)
		}
	}
	// the last lot is one, too
	if is, e := auction.AreLots([]api.Span{to(1, 1), to(2, 2), to(3, 3)}, []int{0, 1}); is || e != api.OK {
		t.Errorf("AreLots of a wrong last lot: %v, %d", is, e)
	}
}

func TestLotsAgainstTheOracle(t *testing.T) { // P4.4
	eachLoad(300, func(r *rand.Rand, l []api.Span) {
		lots, e := auction.Lots(l)
		var want []int
		for from, i := 0, 0; i < len(l); i++ {
			if i == 0 || !isGrade(l[from:i+1]) {
				want, from = append(want, i), i
			}
		}
		if !slices.Equal(lots, want) || e != api.OK {
			t.Errorf("Lots of %v: %v, %d; not %v", l, lots, e, want)
		}
		all := allLots(l)
		for set := range 1 << len(l) {
			var firsts []int
			for i := range l {
				if set>>i&1 == 1 {
					firsts = append(firsts, i)
				}
			}
			want := slices.ContainsFunc(all, func(lots []int) bool { return slices.Equal(lots, firsts) })
			if is, e := auction.AreLots(l, firsts); is != want || e != api.OK {
				t.Errorf("AreLots of %v, %v: %v, %d", l, firsts, is, e)
			}
		}
	})
}

func TestTheLots(t *testing.T) { // P4.11
	eachLoad(200, func(r *rand.Rand, l []api.Span) {
		lots, _ := auction.Lots(l)
		for _, other := range allLots(l) {
			if len(other) < len(lots) {
				t.Errorf("Lots of %v: %v, and %v are fewer", l, lots, other)
			}
		}
	})
	r := rand.New(rand.NewPCG(4, 11))
	for range 300 {
		l := anyBaskets(r, api.AuctionLoads)
		lots, e := auction.Lots(l)
		if is, f := auction.AreLots(l, lots); !is || e != api.OK || f != api.OK {
			t.Fatalf("Lots of %v: %v, %d, %v, %d", l, lots, e, is, f)
		}
		for i := 1; i < len(lots); i++ {
			end := len(l)
			if i+1 < len(lots) {
				end = lots[i+1]
			}
			if isGrade(l[lots[i-1]:end]) {
				t.Errorf("Lots of %v: %v, and %d can be of one grade with the one before it", l, lots, i)
			}
			if is, _ := auction.AreLots(l, slices.Delete(slices.Clone(lots), i, i+1)); is {
				t.Errorf("AreLots of %v: %v without the number %d", l, lots, i)
			}
		}
		for i := range l {
			if less := slices.Delete(slices.Clone(l), i, i+1); len(less) > 0 {
				if fewer, e := auction.Lots(less); len(fewer) > len(lots) || e != api.OK {
					t.Errorf("Lots of %v: %v; without the basket %d %v, %d", l, lots, i, fewer, e)
				}
			}
		}
	}
}

func TestMemoryOfLots(t *testing.T) { // P4.5, P2, R4
	l, firsts := append(make([]api.Span, 0, 20), load()...), append(make([]int, 0, 20), 0, 3)
	lots, _ := auction.Lots(l)
	is, e := auction.AreLots(l, firsts)
	if !is || e != api.OK || !slices.Equal(l, load()) || !slices.Equal(firsts, []int{0, 3}) {
		t.Errorf("arguments have changed: %v, %v", l, firsts)
	}
	for _, n := range firsts[2:cap(firsts)] {
		if n != 0 {
			t.Errorf("%d was written behind an argument", n)
		}
	}
	for _, s := range l[5:cap(l)] {
		if s != (api.Span{}) {
			t.Errorf("%v was written behind an argument", s)
		}
	}
	for i := range lots {
		lots[i] = -9
	}
	if again, e := auction.Lots(l); !slices.Equal(again, []int{0, 3}) || e != api.OK {
		t.Errorf("called again: %v, %d", again, e)
	}
}
