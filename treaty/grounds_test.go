package treaty_test

import (
	"math"
	"math/rand/v2"
	"slices"
	"testing"

	"drifter/api"
	"drifter/treaty"
)

// wishes are those of the document.
func wishes() [][]int { return [][]int{{2, 1, 0, 3}, {0, 1, 2, 3}, {1, 0, 2, 3}, {0, 3, 1, 2}} }

// alike returns wishes of so many nations, all of which have the same list.
func alike(list ...int) [][]int { return slices.Repeat([][]int{list}, len(list)) }

// turned returns wishes of eight nations, each of which wishes the ground of the next one, then that of the one behind it, and so on.
func turned() (w [][]int) {
	for k := range 8 {
		w = append(w, append(first(8)[(k+1)%8:], first(8)[:(k+1)%8]...))
	}
	return w
}

func TestRings(t *testing.T) { // P10.2
	for i, x := range []struct {
		w     [][]int
		rings [][]int
		swap  []int
	}{
		{wishes(), [][]int{{0, 2, 1}, {3}}, []int{2, 0, 1, 3}},
		{[][]int{{0}}, [][]int{{0}}, []int{0}},
		{[][]int{{1, 0}, {0, 1}}, [][]int{{0, 1}}, []int{1, 0}}, {[][]int{{0, 1}, {1, 0}}, [][]int{{0}, {1}}, []int{0, 1}}, {[][]int{{0, 1}, {0, 1}}, [][]int{{0}, {1}}, []int{0, 1}},
		// the nation 0 points to 1, who points to itself: this is the first ring
		{[][]int{{1, 0}, {1, 0}}, [][]int{{1}, {0}}, []int{0, 1}},
		{alike(7, 6, 5, 4, 3, 2, 1, 0), [][]int{{7}, {6}, {5}, {4}, {3}, {2}, {1}, {0}}, first(8)},
		{alike(0, 1, 2, 3, 4, 5, 6, 7), [][]int{{0}, {1}, {2}, {3}, {4}, {5}, {6}, {7}}, first(8)},
		{alike(4, 2, 0, 1, 3), [][]int{{4}, {2}, {0}, {1}, {3}}, first(5)},
		{turned(), [][]int{{0, 1, 2, 3, 4, 5, 6, 7}}, []int{1, 2, 3, 4, 5, 6, 7, 0}},
		// from the nation 0 one comes to the ring of 1 and 2 first; then 0 points to 3, who points to 0
		{[][]int{{1, 3, 0, 2}, {2, 0, 1, 3}, {1, 0, 2, 3}, {2, 0, 1, 3}}, [][]int{{1, 2}, {0, 3}}, []int{3, 2, 1, 0}},
		// the ring of 2 and 3 is made last, although it was there all the time
		{[][]int{{1, 0, 2, 3}, {0, 1, 2, 3}, {3, 0, 1, 2}, {2, 0, 1, 3}}, [][]int{{0, 1}, {2, 3}}, []int{1, 0, 3, 2}},
		// one comes into the ring at 3, but it is written from 1 on
		{[][]int{{3, 0, 1, 2}, {2, 0, 1, 3}, {3, 0, 1, 2}, {1, 0, 2, 3}}, [][]int{{1, 2, 3}, {0}}, []int{0, 2, 3, 1}},
		{[][]int{{3, 0, 1, 2}, {3, 0, 1, 2}, {1, 0, 2, 3}, {2, 0, 1, 3}}, [][]int{{1, 3, 2}, {0}}, []int{0, 3, 1, 2}},
		// between two rings that are there at first one is made that ends in them
		{[][]int{{2, 1, 0, 3, 4}, {3, 0, 1, 2, 4}, {2, 0, 1, 3, 4}, {3, 1, 0, 2, 4}, {2, 3, 1, 0, 4}}, [][]int{{2}, {3}, {0, 1}, {4}}, []int{1, 0, 2, 3, 4}},
	} {
		l, e := treaty.Rings(x.w)
		m, f := treaty.Swap(x.w)
		if g := treaty.CheckWishes(x.w); !same(l, x.rings) || !slices.Equal(m, x.swap) || e != api.OK || f != api.OK || g != api.OK {
			t.Errorf("Rings and Swap %d: %v, %d; %v, %d; %d", i, l, e, m, f, g)
		}
	}
}

// askWishes returns the errors of all functions with wishes, and whether they tell nothing.
func askWishes(w [][]int, exchange []int, set int) (errors [4]api.Errno, nothing bool) {
	l, f := treaty.Rings(w)
	m, g := treaty.Swap(w)
	is, h := treaty.Better(w, exchange, set)
	return [4]api.Errno{treaty.CheckWishes(w), f, g, h}, l == nil && m == nil && !is
}

func TestWrongWishes(t *testing.T) { // P10.2, R1, R2
	wrong := [4]api.Errno{api.ErrTreatyWishes, api.ErrTreatyWishes, api.ErrTreatyWishes, api.ErrTreatyWishes}
	for i, w := range [][][]int{
		nil, {}, {nil}, {{}}, make([][]int, 9), alike(first(9)...), alike(first(40)...),
		{{1}}, {{-1}}, {{0, 1}}, {{0, 0}}, {{0}, {0}}, {{0, 1}, {0}}, {{0}, {0, 1}}, {{0, 1}, {0, 0}}, {{1, 1}, {0, 1}}, {{0, 1}, {0, 2}}, {{0, 1}, {1, 2}}, {{-1, 0}, {0, 1}}, {{0, 1}, {1, -1}}, {{0, 1}, nil},
		{{0, 1, 2}, {0, 1, 2}}, {{0, 1}, {0, 1}, {0, 1}}, {{0, 1, 2}, {0, 1, 2}, {0, 1, 2, 0}}, {{0, 1, 2}, {0, 1, 2}, {0, 1, 1}}, {{0, 1, 2}, {2, 1, 2}, {0, 1, 2}}, {{0, 1, 2}, {1, 2, 3}, {0, 1, 2}},
		{{math.MinInt, 0}, {0, 1}}, {{0, math.MaxInt}, {0, 1}}, {{0, 1}, {0, 1 << 32}}, {{0, 1}, {1, -1 << 32}}, append(alike(first(8)...)[:7], []int{0, 1, 2, 3, 4, 5, 6, 8}), append(alike(first(8)...)[:7], []int{0, 1, 2, 3, 4, 5, 6, 6}),
	} {
		// the wishes are wrong whatever is asked
		for _, exchange := range [][]int{nil, first(len(w)), {0, 0}, {math.MinInt}} {
			for _, set := range []int{0, 1, -1, 1 << len(w), math.MinInt, math.MaxInt} {
				if e, nothing := askWishes(w, exchange, set); e != wrong || !nothing {
					t.Errorf("the wrong wishes %d: %v, %v", i, e, nothing)
				}
			}
		}
	}
}

func TestBetter(t *testing.T) { // P10.2
	for i, x := range []struct {
		w        [][]int
		exchange []int
		set      int
		want     bool
	}{
		{wishes(), []int{2, 0, 1, 3}, 15, false}, {wishes(), []int{2, 1, 0, 3}, 7, true}, {wishes(), []int{2, 1, 0, 3}, 15, true}, {wishes(), []int{2, 1, 0, 3}, 1, false},
		// the nations 1 and 2 have the grounds 1 and 2: 2 would have 1, but 1 would not have 2
		{wishes(), []int{2, 1, 0, 3}, 6, false},
		// each has its own ground: 0 and 1 would change, as would 0 and 2, but not 1 and 2
		{wishes(), first(4), 3, true}, {wishes(), first(4), 5, true}, {wishes(), first(4), 6, false}, {wishes(), first(4), 8, false}, {wishes(), first(4), 11, true}, {wishes(), first(4), 0, false},
		// who has less than their own
		{wishes(), []int{3, 2, 1, 0}, 1, true}, {wishes(), []int{3, 2, 1, 0}, 2, true}, {wishes(), []int{3, 2, 1, 0}, 4, false}, {wishes(), []int{3, 2, 1, 0}, 8, false}, {wishes(), []int{3, 2, 1, 0}, 0, false}, {wishes(), []int{3, 2, 1, 0}, 12, false}, {wishes(), []int{3, 2, 1, 0}, 3, true},
		// one who has the best must keep it: from 2, who is not in the set, it has it, and others do better only without it
		{wishes(), []int{2, 1, 0, 3}, 3, false}, {[][]int{{2, 0, 1}, {1, 2, 0}, {0, 1, 2}}, []int{2, 0, 1}, 2, true}, {[][]int{{2, 0, 1}, {1, 2, 0}, {0, 1, 2}}, []int{2, 0, 1}, 3, false}, {[][]int{{2, 0, 1}, {1, 2, 0}, {0, 1, 2}}, []int{2, 0, 1}, 7, true},
		// all get the same as by the exchange: none does better
		{[][]int{{1, 0}, {0, 1}}, []int{1, 0}, 3, false}, {[][]int{{1, 0}, {0, 1}}, []int{0, 1}, 3, true}, {[][]int{{1, 0}, {0, 1}}, []int{0, 1}, 1, false}, {[][]int{{1, 0}, {1, 0}}, []int{1, 0}, 2, true}, {[][]int{{1, 0}, {1, 0}}, []int{1, 0}, 1, false}, {[][]int{{1, 0}, {1, 0}}, []int{1, 0}, 3, false},
		{[][]int{{0}}, []int{0}, 0, false}, {[][]int{{0}}, []int{0}, 1, false},
		{turned(), first(8), 255, true}, {turned(), first(8), 254, true}, {turned(), []int{1, 2, 3, 4, 5, 6, 7, 0}, 255, false}, {turned(), []int{2, 3, 4, 5, 6, 7, 0, 1}, 255, true}, {turned(), []int{2, 3, 4, 5, 6, 7, 0, 1}, 127, true}, {turned(), []int{2, 3, 4, 5, 6, 7, 0, 1}, 63, false},
		{alike(0, 1, 2, 3, 4, 5, 6, 7), []int{7, 6, 5, 4, 3, 2, 1, 0}, 255, false}, {alike(0, 1, 2, 3, 4, 5, 6, 7), []int{7, 6, 5, 4, 3, 2, 1, 0}, 1, true}, {alike(0, 1, 2, 3, 4, 5, 6, 7), []int{7, 6, 5, 4, 3, 2, 1, 0}, 15, true}, {alike(0, 1, 2, 3, 4, 5, 6, 7), []int{7, 6, 5, 4, 3, 2, 1, 0}, 240, false},
	} {
		if is, e := treaty.Better(x.w, x.exchange, x.set); is != x.want || e != api.OK {
			t.Errorf("Better %d of %v, %v, %d: %v, %d", i, x.w, x.exchange, x.set, is, e)
		}
	}
}

func TestWrongExchanges(t *testing.T) { // P10.2, R1, R2
	for _, w := range [][][]int{wishes(), {{0}}, turned()} {
		n := len(w)
		for _, set := range []int{-1, 1 << n, 1<<n + 1, math.MinInt, math.MaxInt, 1 << 32, -1 << 32} {
			if is, e := treaty.Better(w, first(n), set); is || e != api.ErrTreatyAsk {
				t.Errorf("Better of the set %d of %d nations: %v, %d", set, n, is, e)
			}
		}
		twice := first(n)
		twice[n-1] = 0
		wrong := [][]int{nil, {}, first(n - 1), first(n + 1), append(first(n), 0), append(first(n), -1)}
		if n > 1 {
			wrong = append(wrong, twice, make([]int, n))
		}
		for _, k := range []int{-1, n, 8, math.MinInt, math.MaxInt, 1 << 32, -1 << 32} {
			wrong = append(wrong, append(first(n-1), k), append([]int{k}, first(n)[1:]...))
		}
		for _, exchange := range wrong {
			for _, set := range []int{0, 1, 1<<n - 1, -1, 1 << n} {
				if is, e := treaty.Better(w, exchange, set); is || e != api.ErrTreatyAsk {
					t.Errorf("Better of the wrong exchange %v, %d: %v, %d", exchange, set, is, e)
				}
			}
		}
	}
}

// hold compares Rings and Swap with the rings as the chapter makes them.
func hold(t *testing.T, w [][]int) {
	t.Helper()
	rings, exchange := made(w)
	l, e := treaty.Rings(w)
	m, f := treaty.Swap(w)
	if !same(l, rings) || !slices.Equal(m, exchange) || e != api.OK || f != api.OK {
		t.Fatalf("Rings and Swap of %v: %v, %d; %v, %d; not %v, %v", w, l, e, m, f, rings, exchange)
	}
}

func TestAllRings(t *testing.T) { // P10.2
	for nations := range 4 {
		if nations == 0 {
			continue
		}
		for _, w := range allWishes(nations) {
			hold(t, w)
		}
	}
	r := rand.New(rand.NewPCG(10, 2))
	several, long := 0, 0
	for range 10000 {
		w := anyWishes(r, between(r, 4, 8))
		hold(t, w)
		rings, _ := made(w)
		if len(rings) > 2 {
			several++
		}
		if slices.ContainsFunc(rings, func(l []int) bool { return len(l) > 2 }) {
			long++
		}
	}
	if several < 1000 || long < 1000 {
		t.Errorf("only %d times there are several rings, %d times a long one", several, long)
	}
}

func TestAllSets(t *testing.T) { // P10.2
	better := 0
	count := func(w [][]int, exchange []int, set int) {
		want := doesBetter(w, exchange, set)
		if is, e := treaty.Better(w, exchange, set); is != want || e != api.OK {
			t.Fatalf("Better of %v, %v, %d: %v, %d", w, exchange, set, is, e)
		}
		if want {
			better++
		}
	}
	for nations := 1; nations <= 3; nations++ {
		for _, w := range allWishes(nations) {
			for _, exchange := range orders(first(nations)) {
				for set := range 1 << nations {
					count(w, exchange, set)
				}
			}
		}
	}
	r := rand.New(rand.NewPCG(10, 20))
	for range 1000 {
		n := between(r, 4, 6)
		w, exchange := anyWishes(r, n), r.Perm(n)
		if r.IntN(2) == 0 { // one that is nearly that by the rings
			_, exchange = made(w)
			i, k := r.IntN(n), r.IntN(n)
			exchange[i], exchange[k] = exchange[k], exchange[i]
		}
		for set := range 1 << n {
			count(w, exchange, set)
		}
	}
	for range 20 {
		count(anyWishes(r, 8), r.Perm(8), 255)
		count(anyWishes(r, 8), r.Perm(8), r.IntN(256))
	}
	if better < 5000 {
		t.Errorf("only %d sets do better", better)
	}
}
