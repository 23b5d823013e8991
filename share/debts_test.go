package share_test

import (
	"math"
	"math/rand/v2"
	"reflect"
	"slices"
	"testing"

	"drifter/api"
	"drifter/share"
)

func pay(from, to, pence int) api.SharePay { return api.SharePay{From: from, To: to, Sum: pence} }

// owed are the balances of the chapter's examples.
func owed() []int { return []int{5, -3, -2, 4, -4, 0} }

// compare holds Groups and Clear to how many groups there are at most.
func compare(t *testing.T, balances []int, most int) {
	t.Helper()
	groups, e := share.Groups(balances)
	if len(groups) != most || !areGroups(balances, groups) || e != api.OK {
		t.Errorf("Groups of %v: %v, %d; not %d", balances, groups, e, most)
	}
	open := 0
	for _, n := range balances {
		if n != 0 {
			open++
		}
	}
	l, e := share.Clear(balances)
	if len(l) != open-most || !isClearing(balances, l) || e != api.OK {
		t.Errorf("Clear of %v: %v, %d; not %d", balances, l, e, open-most)
	}
	if is, e := share.IsClear(balances, l); !is || e != api.OK {
		t.Errorf("IsClear of %v, %v: %v, %d", balances, l, is, e)
	}
}

func TestBalancesThatAreWrong(t *testing.T) { // P3.4, P3.5
	for i, balances := range [][]int{
		{1}, {-1}, {1, -2}, {0, 0, 1}, make([]int, 11), append(make([]int, 9), 1, -1),
		{1000001, -1000000, -1}, {-1000001, 1000000, 1}, {math.MaxInt, math.MinInt, 1}, {math.MinInt, math.MinInt}, {math.MaxInt, math.MaxInt, 2},
	} {
		is, e := share.IsClear(balances, nil)
		groups, f := share.Groups(balances)
		l, g := share.Clear(balances)
		if is || groups != nil || l != nil || e != api.ErrShareDebts || f != api.ErrShareDebts || g != api.ErrShareDebts {
			t.Errorf("the wrong balances %d: %v, %d; %v, %d; %v, %d", i, is, e, groups, f, l, g)
		}
		if is, e := share.IsClear(balances, []api.SharePay{pay(-1, -1, -1)}); is || e != api.ErrShareDebts {
			t.Errorf("the wrong balances %d with wrong payments: %v, %d", i, is, e)
		}
	}
}

func TestIsClear(t *testing.T) { // P3.4
	own := []api.SharePay{pay(1, 0, 5), pay(2, 1, 2), pay(4, 3, 4)}
	more := func(l ...api.SharePay) []api.SharePay { return slices.Concat(own, l) }
	const great = math.MaxInt/2 + 1
	for i, x := range []struct {
		balances []int
		l        []api.SharePay
		want     bool
	}{
		{owed(), own, true},
		{owed(), own[:2], false},
		{owed(), nil, false},
		{owed(), []api.SharePay{pay(1, 0, 3), pay(2, 0, 2), pay(4, 3, 4)}, true},
		{owed(), []api.SharePay{pay(1, 0, 3), pay(2, 0, 2), pay(4, 3, 3)}, false},
		{owed(), []api.SharePay{pay(0, 1, 3), pay(0, 2, 2), pay(3, 4, 4)}, false}, // the wrong way round
		{owed(), []api.SharePay{pay(1, 0, 3), pay(2, 0, 1), pay(2, 0, 1), pay(4, 5, 4), pay(5, 3, 4)}, true},
		{owed(), more(pay(0, 1, 7), pay(1, 0, 7)), true}, // there and back
		{owed(), more(pay(0, 1, 7), pay(1, 5, 7), pay(5, 0, 7)), true},
		{owed(), more(pay(5, 5, 1)), false},
		{owed(), more(pay(5, 4, 0)), false},
		{owed(), more(pay(5, 4, 1), pay(5, 4, -1)), false},
		{owed(), more(pay(5, 4, 1), pay(4, 5, -1)), false},
		{owed(), more(pay(6, 4, 1)), false},
		{owed(), more(pay(4, 6, 1)), false},
		{owed(), more(pay(-1, 4, 1)), false},
		{owed(), more(pay(4, -1, 1)), false},
		{owed(), more(pay(math.MaxInt, math.MinInt, 1)), false},
		{owed(), more(pay(0, 1, math.MinInt), pay(0, 1, math.MinInt)), false},
		{owed(), more(pay(0, 1, math.MaxInt)), false},
		{owed(), more(pay(0, 1, math.MaxInt), pay(1, 0, math.MaxInt)), true},
		{owed(), more(slices.Repeat([]api.SharePay{pay(0, 1, math.MaxInt), pay(1, 5, math.MaxInt), pay(5, 0, math.MaxInt)}, 1000)...), true},
		{nil, nil, true},
		{nil, []api.SharePay{}, true},
		{nil, []api.SharePay{pay(0, 1, 1)}, false},
		{[]int{0}, nil, true},
		{[]int{0, 0}, []api.SharePay{pay(0, 1, 1)}, false},
		// sums that come back to 0 only if a number wraps around
		{[]int{0, 0}, slices.Repeat([]api.SharePay{pay(0, 1, great)}, 4), false},
		{[]int{0, 0}, slices.Repeat([]api.SharePay{pay(1, 0, great)}, 4), false},
		{[]int{1, -1}, []api.SharePay{pay(1, 0, math.MaxInt), pay(1, 0, math.MaxInt), pay(1, 0, 3)}, false},
		{[]int{0, 0, 0}, slices.Concat(slices.Repeat([]api.SharePay{pay(0, 1, great)}, 4), slices.Repeat([]api.SharePay{pay(2, 1, great)}, 4)), false},
		{[]int{0, 0}, slices.Concat(slices.Repeat([]api.SharePay{pay(0, 1, great)}, 8), slices.Repeat([]api.SharePay{pay(1, 0, great)}, 8)), true},
	} {
		if is, e := share.IsClear(x.balances, x.l); is != x.want || e != api.OK {
			t.Errorf("IsClear %d: %v, %d", i, is, e)
		}
		if is := isClearing(x.balances, x.l); is != x.want {
			t.Errorf("the oracle is wrong of IsClear %d", i)
		}
	}
}

func TestGroupsAndClear(t *testing.T) { // P3.4, P3.5
	for _, x := range []struct {
		balances []int
		most     int
	}{
		{owed(), 2}, {nil, 0}, {[]int{0}, 0}, {make([]int, 10), 0}, {[]int{7, -7}, 1}, {[]int{0, 7, 0, -7}, 1},
		{[]int{3, 3, -2, -2, -2}, 1}, {[]int{1, 2, 3, -1, -2, -3}, 3}, {[]int{6, 7, -5, -4, -3, -1}, 2},
		{[]int{1, 1, 1, 1, 1, -1, -1, -1, -1, -1}, 5}, {[]int{9, -1, -1, -1, -1, -1, -1, -1, -1, -1}, 1},
		{[]int{1000000, -1000000, 1000000, -1000000, 1000000, -1000000, 1000000, -1000000, 1000000, -1000000}, 5},
		// 1 2 -3 are together 0, but who takes them leaves one group more only
		{[]int{1, 2, -3, 10, -11, 20, -22, 30, -27}, 3},
		{[]int{-27, 30, 0, -22, 20, -11, 10, -3, 2, 1}, 3},
		{[]int{10, 1, 20, 2, 30, -3, -11, -22, -27, 0}, 3},
		// the greatest ones do not match: 8 -6 -2, 7 -4 -3, 5 -5
		{[]int{8, 7, 5, -6, -5, -4, -3, -2}, 3},
	} {
		compare(t, x.balances, x.most)
	}
}

func TestDebtsAgainstTheOracle(t *testing.T) { // P3.4, P3.5
	eachDebt(300, func(_ *rand.Rand, balances []int) {
		compare(t, balances, mostGroups(balances))
	})
}

func TestIsClearAgainstTheOracle(t *testing.T) { // P3.4
	clear := 0
	eachDebt(4000, func(r *rand.Rand, balances []int) {
		l, _ := share.Clear(balances)
		for range r.IntN(4) {
			// round a ring, or not quite
			a, b, c, pence := between(r, -1, len(balances)), between(r, 0, len(balances)), between(r, 0, len(balances)), between(r, 0, 5)
			l = append(l, pay(a, b, pence), pay(b, c, pence), pay(c, a, pence))
		}
		if len(l) > 0 && r.IntN(3) == 0 {
			l[r.IntN(len(l))].Sum += between(r, -1, 1)
		}
		want := isClearing(balances, l)
		if want {
			clear++
		}
		if is, e := share.IsClear(balances, l); is != want || e != api.OK {
			t.Errorf("IsClear of %v, %v: %v, %d", balances, l, is, e)
		}
	})
	if clear < 500 || clear > 3500 {
		t.Errorf("%d of 4000 lists clear", clear)
	}
}

// Arguments are as they were, and two groups, and two calls, share no memory.
func TestMemoryOfDebts(t *testing.T) { // P3.6, P2, R4
	balances := owed()
	wanted, _ := share.Clear(balances)
	want, _ := share.Groups(balances)
	for i := range want {
		again, _ := share.Groups(balances)
		for k := range again[i][:cap(again[i])] {
			again[i][:cap(again[i])][k] = -9
		}
		for k := range want {
			if k != i && !slices.Equal(again[k], want[k]) {
				t.Errorf("two groups share memory: %v", again)
			}
		}
	}
	l, _ := share.Clear(balances)
	payments := slices.Clone(l)
	share.IsClear(balances, payments)
	if !slices.Equal(payments, l) || !slices.Equal(balances, owed()) {
		t.Errorf("arguments have changed: %v, %v", payments, balances)
	}
	clear(l)
	groups, _ := share.Groups(balances)
	if l, _ := share.Clear(balances); !slices.Equal(l, wanted) || !reflect.DeepEqual(groups, want) {
		t.Errorf("called again: %v, not %v; %v, not %v", l, wanted, groups, want)
	}
	a, e := share.Groups([]int{})
	b, f := share.Clear([]int{})
	if len(a) != 0 || len(b) != 0 || e != api.OK || f != api.OK {
		t.Errorf("without balances: %v, %d; %v, %d", a, e, b, f)
	}
}
