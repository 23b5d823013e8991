package treaty_test

import (
	"math/rand/v2"
	"slices"
	"testing"

	"drifter/api"
	"drifter/treaty"
)

// sharesOf returns the shares of claims that are right.
func sharesOf(t *testing.T, c api.TreatyClaims) []int {
	t.Helper()
	l, e := treaty.Shares(c)
	if e != api.OK || len(l) != len(c.Rights) {
		t.Fatalf("Shares of %v: %v, %d", c, l, e)
	}
	return l
}

// rights returns the most that a right can be in some claims.
func rights(r *rand.Rand) int { return []int{1, 5, 60, 100000}[r.IntN(4)] }

func TestTheQuota(t *testing.T) { // P10.5
	r := rand.New(rand.NewPCG(10, 5))
	less := 0
	for range 10000 {
		c := anyClaims(r, rights(r))
		l := sharesOf(t, c)
		if total(l) != c.Quota {
			t.Fatalf("Shares of %v: %v, which are %d together", c, l, total(l))
		}
		for k, share := range l {
			if share < 0 || share > c.Rights[k] || share < c.Rights[k] && share < slices.Max(l)-1 {
				t.Fatalf("Shares of %v: %v: the nation %d gets %d", c, l, k, share)
			}
			if share < c.Rights[k] {
				less++
			}
		}
		// what all others leave of the quota by their rights goes to a set
		for set := range 1 << len(l) {
			its, others := 0, 0
			for k, share := range l {
				if set&(1<<k) != 0 {
					its += share
				} else {
					others += c.Rights[k]
				}
			}
			if its < c.Quota-others {
				t.Fatalf("Shares of %v: %v: the set %d gets %d, but %d are left", c, l, set, its, c.Quota-others)
			}
		}
	}
	if less < 10000 {
		t.Errorf("only %d nations get less than their right", less)
	}
}

// isOneMore reports whether one number of a list is one more than in another list, and all others are the same.
func isOneMore(more, l []int) bool {
	n := 0
	for k := range l {
		if more[k] < l[k] {
			return false
		}
		n += more[k] - l[k]
	}
	return n == 1 && len(more) == len(l)
}

func TestOneMoreInTheQuota(t *testing.T) { // P10.5
	r := rand.New(rand.NewPCG(10, 50))
	for range 300 {
		c := anyClaims(r, []int{1, 5, 60}[r.IntN(3)])
		c.Quota = 0
		for before := sharesOf(t, c); c.Quota < total(c.Rights); {
			c.Quota++
			l := sharesOf(t, c)
			if !isOneMore(l, before) {
				t.Fatalf("Shares of %v: %v, and %v with one less", c, l, before)
			}
			before = l
		}
	}
	for range 3000 {
		c := anyClaims(r, 100000)
		if c.Quota == total(c.Rights) {
			continue
		}
		before := sharesOf(t, c)
		c.Quota++
		if l := sharesOf(t, c); !isOneMore(l, before) {
			t.Fatalf("Shares of %v: %v, and %v with one less", c, l, before)
		}
	}
}

// swapOf returns the exchange by the rings of wishes that are right.
func swapOf(t *testing.T, w [][]int) []int {
	t.Helper()
	l, e := treaty.Swap(w)
	if sorted := slices.Sorted(slices.Values(l)); e != api.OK || !slices.Equal(sorted, first(len(w))) {
		t.Fatalf("Swap of %v: %v, %d", w, l, e)
	}
	return l
}

// better returns what Better tells of wishes, an exchange and a set that are right.
func better(t *testing.T, w [][]int, exchange []int, set int) bool {
	t.Helper()
	is, e := treaty.Better(w, exchange, set)
	if e != api.OK {
		t.Fatalf("Better of %v, %v, %d: %d", w, exchange, set, e)
	}
	return is
}

func TestTheGrounds(t *testing.T) { // P10.6
	r := rand.New(rand.NewPCG(10, 6))
	hold := func(w [][]int, exchanges [][]int) {
		l := swapOf(t, w)
		for set := range 1 << len(w) {
			if better(t, w, l, set) {
				t.Fatalf("Swap of %v: %v, but the set %d does better", w, l, set)
			}
		}
		rings, e := treaty.Rings(w)
		if e != api.OK {
			t.Fatalf("Rings of %v: %d", w, e)
		}
		for _, exchange := range exchanges {
			does := slices.ContainsFunc(rings, func(ring []int) bool { return better(t, w, exchange, setOf(ring)) })
			if does == slices.Equal(exchange, l) {
				t.Fatalf("of the rings %v of %v one does better than by %v: %v", rings, w, exchange, does)
			}
		}
	}
	for n := 1; n <= 3; n++ {
		for _, w := range allWishes(n) {
			hold(w, orders(first(n)))
		}
	}
	for range 500 {
		n := between(r, 4, 5)
		hold(anyWishes(r, n), orders(first(n)))
	}
	for range 500 {
		n := between(r, 6, 8)
		w := anyWishes(r, n)
		exchanges := [][]int{r.Perm(n), r.Perm(n), first(n), swapOf(t, w)}
		// those that are nearly the one by the rings
		for range 10 {
			near := swapOf(t, w)
			i, k := r.IntN(n), r.IntN(n)
			near[i], near[k] = near[k], near[i]
			exchanges = append(exchanges, near)
		}
		hold(w, exchanges)
	}
}

func TestItsOwnGround(t *testing.T) { // P10.7
	r := rand.New(rand.NewPCG(10, 7))
	gains := 0
	for range 5000 {
		w := anyWishes(r, between(r, 1, 8))
		for k, ground := range swapOf(t, w) {
			now, own := slices.Index(w[k], ground), slices.Index(w[k], k)
			if now > own {
				t.Fatalf("Swap of %v: the nation %d gets %d", w, k, ground)
			}
			if now < own {
				gains++
			}
		}
	}
	if gains < 5000 {
		t.Errorf("only %d nations gain", gains)
	}
}

func TestOtherWishes(t *testing.T) { // P10.7
	r := rand.New(rand.NewPCG(10, 70))
	worse := 0
	hold := func(w [][]int, k int, lists [][]int) {
		now := slices.Index(w[k], swapOf(t, w)[k])
		other := slices.Clone(w)
		for _, list := range lists {
			other[k] = list
			then := slices.Index(w[k], swapOf(t, other)[k])
			if then < now {
				t.Fatalf("the nation %d gets a better ground than by its wishes in %v if it wishes %v", k, w, list)
			}
			if then > now {
				worse++
			}
		}
	}
	for n := 1; n <= 3; n++ {
		for _, w := range allWishes(n) {
			for k := range n {
				hold(w, k, orders(first(n)))
			}
		}
	}
	for range 300 {
		n := between(r, 4, 5)
		w := anyWishes(r, n)
		for k := range n {
			hold(w, k, orders(first(n)))
		}
	}
	for range 1000 {
		n := between(r, 6, 8)
		w := anyWishes(r, n)
		for k := range n {
			hold(w, k, anyWishes(r, n))
		}
	}
	if worse < 10000 {
		t.Errorf("only %d other wishes are worse", worse)
	}
}

// dealsOf returns the deals of a trade that is right.
func dealsOf(t *testing.T, x api.TreatyTrade) []int {
	t.Helper()
	l, e := treaty.Deals(x)
	if e != api.OK || len(l) != len(x.Curers) {
		t.Fatalf("Deals of %v: %v, %d", x, l, e)
	}
	return l
}

func TestTheTrade(t *testing.T) { // P10.8
	r := rand.New(rand.NewPCG(10, 8))
	others := 0
	for range 6000 {
		x := anyTrade(r, 5, 3)
		l := dealsOf(t, x)
		all := stableDeals(x)
		if !slices.ContainsFunc(all, func(deals []int) bool { return slices.Equal(deals, l) }) {
			t.Fatalf("Deals of %v: %v, but stable are %v", x, l, all)
		}
		for _, deals := range all {
			for curer := range l {
				if likes(x, curer, deals[curer]) > likes(x, curer, l[curer]) || (deals[curer] < 0) != (l[curer] < 0) {
					t.Fatalf("Deals of %v: %v, but %v are stable", x, l, deals)
				}
			}
		}
		others += len(all) - 1
	}
	if others < 100 {
		t.Errorf("only %d other deals are stable", others)
	}
}

func TestTheGreatestTrades(t *testing.T) { // P10.8
	r := rand.New(rand.NewPCG(10, 80))
	several := 0
	for range 10 {
		x := anyTrade(r, 8, 5)
		for len(x.Curers) < 8 || len(x.Countries) < 4 {
			x = anyTrade(r, 8, 5)
		}
		l := dealsOf(t, x)
		all := stableDeals(x)
		for _, deals := range all {
			for curer := range l {
				if likes(x, curer, deals[curer]) > likes(x, curer, l[curer]) || (deals[curer] < 0) != (l[curer] < 0) {
					t.Fatalf("Deals of %v: %v, but %v are stable", x, l, deals)
				}
			}
		}
		if !isStable(x, l) {
			t.Fatalf("Deals of %v: %v are not stable", x, l)
		}
		several += len(all)
	}
	if several < 10 {
		t.Errorf("only %d stable deals", several)
	}
}

func TestOtherLists(t *testing.T) { // P10.9
	r := rand.New(rand.NewPCG(10, 9))
	worse := 0
	hold := func(x api.TreatyTrade, lists [][]int) {
		l := dealsOf(t, x)
		for curer := range l {
			other := copied(x)
			for _, list := range lists {
				other.Curers[curer] = list
				now, then := likes(x, curer, l[curer]), likes(x, curer, dealsOf(t, other)[curer])
				if then > now {
					t.Fatalf("the curer %d does better than in %v by the list %v", curer, x, list)
				}
				if then < now {
					worse++
				}
			}
		}
	}
	for range 1500 {
		x := anyTrade(r, 8, 3)
		hold(x, allLists(len(x.Countries)))
	}
	for range 40 {
		x := anyTrade(r, 8, 5)
		hold(x, allLists(len(x.Countries)))
	}
	if worse < 10000 {
		t.Errorf("only %d other lists are worse", worse)
	}
}

func TestRoom(t *testing.T) { // P10.9
	r := rand.New(rand.NewPCG(10, 90))
	closed, more, better := 0, 0, 0
	for range 5000 {
		x := anyTrade(r, 8, 5)
		l := dealsOf(t, x)
		for number := range x.Countries {
			other := copied(x)
			other.Countries[number].Room = 0
			m := dealsOf(t, other)
			for curer := range l {
				if likes(x, curer, m[curer]) > likes(x, curer, l[curer]) {
					t.Fatalf("Deals of %v: %v, but %v if the country %d closes", x, l, m, number)
				}
			}
			for k := range x.Countries {
				if k == number && takes(m, k) > 0 || k != number && takes(m, k) < takes(l, k) {
					t.Fatalf("Deals of %v: %v, but %v if the country %d closes", x, l, m, number)
				}
				if k != number && takes(m, k) > takes(l, k) {
					more++
				}
			}
			if !slices.Equal(l, m) {
				closed++
			}
			if x.Countries[number].Room == 8 {
				continue
			}
			other.Countries[number].Room = x.Countries[number].Room + 1
			m = dealsOf(t, other)
			for curer := range l {
				if likes(x, curer, m[curer]) < likes(x, curer, l[curer]) {
					t.Fatalf("Deals of %v: %v, but %v with more room in the country %d", x, l, m, number)
				}
			}
			if !slices.Equal(l, m) {
				better++
			}
		}
	}
	if closed < 1000 || more < 1000 || better < 1000 {
		t.Errorf("%d times something changes when a country closes, %d countries take more then, %d times with more room", closed, more, better)
	}
}
