package contract_test

import (
	"math/rand/v2"
	"slices"
	"testing"

	"drifter/api"
	"drifter/contract"
)

// seasons returns a book with other seasons.
func seasons(b api.ContractBook, l ...api.ContractSeason) api.ContractBook {
	b.Seasons = l
	return b
}

// row is one in which each debt breaks a round behind the next one of the book.
func row() api.ContractBook {
	return poor([]int{3, 0, 0, 0}, debt(2, 3, 5), debt(1, 2, 5), debt(0, 1, 5))
}

// turn is a ring of two parties, one of which pays 1 to a third one first.
func turn() api.ContractBook {
	return poor([]int{0, 0, 0}, debt(0, 1, 2), debt(1, 2, 1), debt(1, 0, 2))
}

func TestBreaksAndLoans(t *testing.T) { // P8.3, P8.4
	good, bad, worse := season(2, 50, 0, 0), season(1, 50, 0, 0), season(1, 10, 0, 0)
	for i, x := range []struct {
		b            api.ContractBook
		season, debt int
		e            api.Errno
		loans        []int
	}{
		{own(), 1, 1, api.OK, []int{80, 0, 0}},
		{seasons(own(), good), 0, 0, api.ErrNone, []int{0, 0, 0}},
		{seasons(own(), good, good, good), 0, 0, api.ErrNone, []int{0, 0, 0}},
		{seasons(own(), bad), 0, 1, api.OK, []int{40, 0, 0}},
		{seasons(own(), worse, good, bad), 0, 0, api.OK, []int{80, 0, 0}},
		{seasons(own(), bad, worse, good), 0, 1, api.OK, []int{80, 0, 0}},
		{seasons(own(), good, good, good, good, good, bad), 5, 1, api.OK, []int{40, 0, 0}},
		{seasons(own(), season(0, 50, 50, 50)), 0, 0, api.OK, []int{90, 0, 0}},
		{poor([]int{7}), 0, 0, api.ErrNone, []int{0}},
		{poor([]int{0, 0}, debt(0, 1, 5)), 0, 0, api.OK, []int{5, 0}},
		{poor([]int{5, 0}, debt(0, 1, 5)), 0, 0, api.ErrNone, []int{0, 0}},
		{poor([]int{6, 0}, debt(0, 1, 5)), 0, 0, api.ErrNone, []int{0, 0}},
		{row(), 0, 2, api.OK, []int{2, 0, 0, 0}},
		{turn(), 0, 2, api.OK, []int{0, 1, 0}},
		{worn(10000), 0, 5, api.OK, []int{0, 0, 0, 0, 1, 0}},
		// the earliest round decides before the number does, the number among those of this round
		{poor([]int{0, 0, 0}, debt(1, 2, 5), debt(0, 1, 5)), 0, 1, api.OK, []int{5, 0, 0}},
		{poor([]int{0, 0, 0}, debt(1, 2, 5), debt(0, 1, 5), debt(0, 2, 3)), 0, 1, api.OK, []int{8, 0, 0}},
		{poor([]int{0, 0, 0, 0}, debt(1, 2, 5), debt(3, 1, 4), debt(0, 1, 1)), 0, 1, api.OK, []int{1, 0, 0, 4}},
		// each party is lent what it lacks in its own worst season
		{seasons(poor([]int{0, 0}, debt(0, 1, 20), debt(1, 0, 20)), season(1, 5, 0), season(1, 0, 5)), 0, 0, api.ErrNone, []int{0, 0}},
		{seasons(poor([]int{0, 0, 0}, debt(0, 2, 20), debt(1, 2, 20)), season(1, 5, 9, 0), season(1, 15, 2, 7), season(4, 1, 1, 0)), 0, 0, api.OK, []int{16, 18, 0}},
		{seasons(poor([]int{0, 0}, debt(0, 1, 20)), season(2, 10, 0), season(2, 9, 0)), 1, 0, api.OK, []int{2, 0}},
		// with all its loans a party can have more than 10000
		{poor(make([]int, 6), slices.Repeat([]api.ContractDebt{debt(0, 5, 10000)}, 12)...), 0, 0, api.OK, []int{120000, 0, 0, 0, 0, 0}},
		{most(), 0, 6, api.OK, []int{30000, 0, 0, 0, 0, 30000}},
	} {
		if s, d, e := contract.Breaks(x.b); s != x.season || d != x.debt || e != x.e {
			t.Errorf("Breaks %d: %d, %d, %d", i, s, d, e)
		}
		if l, e := contract.Loans(x.b); !slices.Equal(l, x.loans) || e != api.OK {
			t.Errorf("Loans %d: %v, %d", i, l, e)
		}
	}
}

func TestBehind(t *testing.T) { // P8.3
	for i, x := range []struct {
		b            api.ContractBook
		season, debt int
		want         []int
		e            api.Errno
	}{
		{own(), 2, 0, []int{0}, api.OK}, {own(), 2, 1, []int{1}, api.OK}, {own(), 2, 2, []int{0, 2}, api.OK},
		{own(), 1, 0, nil, api.ErrNone}, {own(), 1, 1, []int{1}, api.OK}, {own(), 1, 2, nil, api.ErrNone},
		{own(), 0, 0, nil, api.ErrNone}, {own(), 0, 1, nil, api.ErrNone}, {own(), 0, 2, nil, api.ErrNone},
		{row(), 0, 0, []int{2, 1, 0}, api.OK}, {row(), 0, 1, []int{2, 1}, api.OK}, {row(), 0, 2, []int{2}, api.OK},
		{turn(), 0, 0, []int{2, 0}, api.OK}, {turn(), 0, 1, []int{2, 0, 1}, api.OK}, {turn(), 0, 2, []int{2}, api.OK},
		{worn(5), 0, 0, []int{5, 1, 2, 3, 4, 0}, api.OK}, {worn(5), 0, 4, []int{5, 1, 2, 3, 4}, api.OK}, {worn(5), 0, 5, []int{5}, api.OK},
		// of two that break before it the first one of the book, be it of a later round than the other
		{poor(make([]int, 4), debt(0, 1, 5), debt(2, 1, 5), debt(1, 3, 10)), 0, 2, []int{0, 2}, api.OK},
		{poor(make([]int, 4), debt(2, 1, 5), debt(0, 1, 5), debt(1, 3, 10)), 0, 2, []int{0, 2}, api.OK},
		{poor([]int{0, 0, 5, 0, 0}, debt(1, 2, 5), debt(0, 1, 5), debt(3, 2, 5), debt(2, 4, 15)), 0, 3, []int{2, 3}, api.OK},    // the debt 0 breaks in the same round, not in an earlier one
		{poor([]int{0, 0, 5, 0, 0}, debt(1, 2, 5), debt(0, 1, 5), debt(3, 2, 5), debt(2, 4, 10)), 0, 3, []int{1, 0, 3}, api.OK}, // here it breaks in an earlier one, though later than the debt 2
		{poor([]int{0, 0, 5, 0, 0}, debt(1, 2, 5), debt(0, 1, 5), debt(3, 2, 5), debt(2, 4, 5)), 0, 3, nil, api.ErrNone},        // what it has is enough
		{poor([]int{0, 0, 0, 5, 0}, debt(1, 2, 5), debt(0, 1, 5), debt(3, 2, 2), debt(2, 4, 7)), 0, 3, []int{1, 0, 3}, api.OK},
		{poor([]int{0, 0, 0, 5, 0}, debt(3, 2, 2), debt(1, 2, 5), debt(0, 1, 5), debt(2, 4, 7)), 0, 3, []int{2, 1, 3}, api.OK}, // the debt 0 does not break
		{poor([]int{0, 0, 0, 1, 0}, debt(3, 2, 2), debt(1, 2, 5), debt(0, 1, 5), debt(2, 4, 5)), 0, 3, []int{0, 3}, api.OK},    // it does, though nothing else breaks by that
		// of two that are the same but for their place only the second one breaks
		{poor([]int{3, 0, 0}, debt(0, 1, 3), debt(0, 1, 3), debt(1, 2, 6)), 0, 2, []int{1, 2}, api.OK},
	} {
		if l, e := contract.Behind(x.b, x.season, x.debt); !slices.Equal(l, x.want) || e != x.e {
			t.Errorf("Behind %d: %v, %d", i, l, e)
		}
	}
}

func TestBreaksOfAnyBook(t *testing.T) { // P8.3
	r := rand.New(rand.NewPCG(8, 2))
	var seen [6]int
	none, long := 0, 0
	for range 5000 {
		b := anyBook(r, anySizes(r))
		which, first := breaksOf(b)
		s, d, e := contract.Breaks(b)
		if which < 0 && (s != 0 || d != 0 || e != api.ErrNone) || which >= 0 && (s != which || d != first || e != api.OK) {
			t.Fatalf("Breaks of %v: %d, %d, %d, not %d, %d", b, s, d, e, which, first)
		}
		if e == api.OK {
			seen[s]++
		}
		for s := range b.Seasons {
			rounds, _ := broken(b, s)
			for d, round := range rounds {
				l, e := contract.Behind(b, s, d)
				if round == 0 {
					if l != nil || e != api.ErrNone {
						t.Fatalf("Behind of %v, %d, %d: %v, %d, not ErrNone", b, s, d, l, e)
					}
					none++
					continue
				}
				if want := behindOf(b, rounds, d); !slices.Equal(l, want) || e != api.OK {
					t.Fatalf("Behind of %v, %d, %d: %v, %d, not %v", b, s, d, l, e, want)
				}
				if len(l) > 2 {
					long++
				}
			}
		}
	}
	if none < 1000 || long < 200 || slices.Min(seen[:4]) < 10 {
		t.Errorf("%d debts do not break, %d have much behind them; the seasons are %v", none, long, seen)
	}
}

// The worst of a party can come in any season, and nothing that is owed to it is then missing.
func TestLoansOfAnyBook(t *testing.T) { // P8.4
	r := rand.New(rand.NewPCG(8, 3))
	for range 3000 {
		b := anyBook(r, anySizes(r))
		var want []int
		for party := range b.Cash {
			n := 0
			for s := range b.Seasons {
				n = max(n, -leftOf(b, s, whole(b))[party])
			}
			want = append(want, n)
		}
		if l, e := contract.Loans(b); !slices.Equal(l, want) || e != api.OK {
			t.Fatalf("Loans of %v: %v, %d, not %v", b, l, e, want)
		}
	}
}
