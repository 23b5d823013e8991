package contract_test

import (
	"math/rand/v2"
	"slices"
	"strconv"
	"testing"

	"drifter/api"
	"drifter/contract"
)

func digits(n int) string { return strconv.Itoa(n) }

// poor is a book with one season in which nobody has barrels.
func poor(cash []int, debts ...api.ContractDebt) api.ContractBook {
	return api.ContractBook{Cash: cash, Debts: debts, Seasons: []api.ContractSeason{{Barrels: make([]int, len(cash))}}}
}

// selling is a book with one season, whose price is 3, in which nobody has cash.
func selling(barrels []int, debts ...api.ContractDebt) api.ContractBook {
	return api.ContractBook{Cash: make([]int, len(barrels)), Debts: debts, Seasons: []api.ContractSeason{season(3, barrels...)}}
}

// worn is a ring of five parties through which all that is due can go round, but for 1 that the last one pays to another one first.
func worn(due int) api.ContractBook {
	return poor(make([]int, 6), debt(4, 5, 1), debt(0, 1, due), debt(1, 2, due), debt(2, 3, due), debt(3, 4, due), debt(4, 0, due))
}

func TestClear(t *testing.T) { // P8.2, R3
	for i, x := range []struct {
		b                  api.ContractBook
		season             int
		paid, rounds, left []int
	}{
		{own(), 0, []int{60, 50, 40}, []int{0, 0, 0}, []int{10, 190, 20}},
		{own(), 1, []int{60, 10, 40}, []int{0, 1, 0}, []int{0, 150, 20}},
		{own(), 2, []int{30, 0, 30}, []int{1, 1, 2}, []int{0, 130, 0}},
		// without debts
		{poor([]int{7}), 0, nil, nil, []int{7}}, {poor([]int{0}), 0, nil, nil, []int{0}}, {poor([]int{3, 4, 5}), 0, nil, nil, []int{3, 4, 5}},
		{selling([]int{2, 0, 5}), 0, nil, nil, []int{6, 0, 15}},
		// what is had is just enough, or 1 too little
		{poor([]int{5, 0}, debt(0, 1, 5)), 0, []int{5}, []int{0}, []int{0, 5}},
		{poor([]int{4, 0}, debt(0, 1, 5)), 0, []int{4}, []int{1}, []int{0, 4}},
		{poor([]int{6, 0}, debt(0, 1, 5)), 0, []int{5}, []int{0}, []int{1, 5}},
		{poor([]int{0, 9}, debt(0, 1, 5)), 0, []int{0}, []int{1}, []int{0, 9}},
		{selling([]int{2, 1}, debt(0, 1, 6)), 0, []int{6}, []int{0}, []int{0, 9}},
		{selling([]int{2, 1}, debt(0, 1, 7)), 0, []int{6}, []int{1}, []int{0, 9}},
		{selling([]int{0, 1}, debt(0, 1, 7), debt(1, 0, 4)), 0, []int{4, 4}, []int{1, 0}, []int{0, 3}},
		// what a party owes is paid in the order of the book
		{poor([]int{6, 0}, debt(0, 1, 4), debt(0, 1, 3)), 0, []int{4, 2}, []int{0, 1}, []int{0, 6}},
		{poor([]int{6, 0}, debt(0, 1, 6), debt(0, 1, 3)), 0, []int{6, 0}, []int{0, 1}, []int{0, 6}},
		{poor([]int{6, 0}, debt(0, 1, 3), debt(0, 1, 3)), 0, []int{3, 3}, []int{0, 0}, []int{0, 6}},
		{poor([]int{5, 0}, debt(0, 1, 3), debt(0, 1, 3)), 0, []int{3, 2}, []int{0, 1}, []int{0, 5}}, // both are the same but for their place
		{poor([]int{2, 0, 0}, debt(0, 1, 3), debt(0, 2, 1)), 0, []int{2, 0}, []int{1, 1}, []int{0, 2, 0}},
		{poor([]int{2, 0, 0}, debt(0, 2, 1), debt(0, 1, 3)), 0, []int{1, 1}, []int{0, 1}, []int{0, 1, 1}},
		// rings hold together with nothing in them, or lose what is missing
		{poor([]int{0, 0}, debt(0, 1, 5), debt(1, 0, 5)), 0, []int{5, 5}, []int{0, 0}, []int{0, 0}},
		{poor([]int{0, 0}, debt(0, 1, 5), debt(1, 0, 4)), 0, []int{4, 4}, []int{1, 0}, []int{0, 0}},
		{poor([]int{1, 0}, debt(0, 1, 5), debt(1, 0, 4)), 0, []int{5, 4}, []int{0, 0}, []int{0, 1}},
		{poor([]int{0, 0, 0}, debt(2, 0, 9), debt(0, 1, 9), debt(1, 2, 9)), 0, []int{9, 9, 9}, []int{0, 0, 0}, []int{0, 0, 0}},
		{poor([]int{0, 0, 0}, debt(2, 0, 9), debt(0, 1, 9), debt(1, 2, 7)), 0, []int{7, 7, 7}, []int{1, 2, 0}, []int{0, 0, 0}},
		{poor([]int{0, 0, 0}, debt(0, 1, 2), debt(1, 2, 1), debt(1, 0, 2)), 0, []int{0, 0, 0}, []int{2, 5, 1}, []int{0, 0, 0}},
		{worn(2), 0, []int{0, 0, 0, 0, 0, 0}, []int{11, 2, 3, 4, 5, 1}, []int{0, 0, 0, 0, 0, 0}},
		{worn(10000), 0, []int{0, 0, 0, 0, 0, 0}, []int{50001, 2, 3, 4, 5, 1}, []int{0, 0, 0, 0, 0, 0}},
		// rows: each one breaks a round behind the one before
		{poor([]int{3, 0, 0, 0}, debt(2, 3, 5), debt(1, 2, 5), debt(0, 1, 5)), 0, []int{3, 3, 3}, []int{3, 2, 1}, []int{0, 0, 0, 3}},
		{poor([]int{3, 0, 0, 0}, debt(0, 1, 5), debt(1, 2, 5), debt(2, 3, 5)), 0, []int{3, 3, 3}, []int{1, 2, 3}, []int{0, 0, 0, 3}},
		{poor([]int{3, 1, 0, 0}, debt(0, 1, 5), debt(1, 2, 5), debt(2, 3, 4)), 0, []int{3, 4, 4}, []int{1, 2, 0}, []int{0, 0, 0, 4}},
		// what is paid of a debt becomes less again after the round in which it breaks
		{poor([]int{0, 0, 0, 0}, debt(0, 2, 5), debt(1, 0, 5), debt(2, 3, 9), debt(1, 2, 5)), 0, []int{0, 0, 0, 0}, []int{2, 1, 2, 1}, []int{0, 0, 0, 0}},
		{poor([]int{10000, 0}, debt(0, 1, 10000)), 0, []int{10000}, []int{0}, []int{0, 10000}},
	} {
		if l, e := contract.Clear(x.b, x.season); !slices.Equal(l, x.paid) || e != api.OK {
			t.Errorf("Clear %d: %v, %d", i, l, e)
		}
		if l, e := contract.Rounds(x.b, x.season); !slices.Equal(l, x.rounds) || e != api.OK {
			t.Errorf("Rounds %d: %v, %d", i, l, e)
		}
		if l, e := contract.Left(x.b, x.season); !slices.Equal(l, x.left) || e != api.OK {
			t.Errorf("Left %d: %v, %d", i, l, e)
		}
	}
}

func TestTheGreatestBook(t *testing.T) { // P8.2
	b := most()
	// of the six debts of a party, which has 30000, the last three are paid nothing
	paid := append(slices.Repeat([]int{10000}, 6), make([]int, 6)...)
	left := []int{0, 60000, 30000, 30000, 60000, 0}
	for s := range b.Seasons {
		if l, e := contract.Clear(b, s); !slices.Equal(l, paid) || e != api.OK {
			t.Errorf("Clear in the season %d: %v, %d", s, l, e)
		}
		if l, e := contract.Left(b, s); !slices.Equal(l, left) || e != api.OK {
			t.Errorf("Left in the season %d: %v, %d", s, l, e)
		}
	}
}

func TestSeasonsOfAnyBook(t *testing.T) { // P8.2
	r := rand.New(rand.NewPCG(8, 1))
	broke, late := 0, 0
	for range 2000 {
		b := anyBook(r, anySizes(r))
		for s := range b.Seasons {
			rounds, paid := broken(b, s)
			if l, e := contract.Clear(b, s); !slices.Equal(l, paid) || e != api.OK {
				t.Fatalf("Clear of %v, %d: %v, %d, not %v", b, s, l, e, paid)
			}
			if l, e := contract.Rounds(b, s); !slices.Equal(l, rounds) || e != api.OK {
				t.Fatalf("Rounds of %v, %d: %v, %d, not %v", b, s, l, e, rounds)
			}
			if l, e := contract.Left(b, s); !slices.Equal(l, leftOf(b, s, paid)) || e != api.OK {
				t.Fatalf("Left of %v, %d: %v, %d, not %v", b, s, l, e, leftOf(b, s, paid))
			}
			last := slices.Max(append(rounds, 0))
			if last > 0 {
				broke++
			}
			if last > 2 {
				late++
			}
		}
	}
	if broke < 1000 || late < 200 {
		t.Errorf("debts break in only %d seasons, in a late round in %d", broke, late)
	}
}
