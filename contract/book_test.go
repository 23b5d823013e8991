package contract_test

import (
	"math"
	"slices"
	"testing"

	"drifter/api"
	"drifter/contract"
)

// own is the book of the chapter's examples: a curer, a bank and a skipper.
func own() api.ContractBook {
	return api.ContractBook{
		Cash:    []int{20, 100, 0},
		Debts:   []api.ContractDebt{debt(0, 2, 60), debt(0, 1, 50), debt(2, 1, 40)},
		Seasons: []api.ContractSeason{season(2, 50, 0, 0), season(1, 50, 0, 0), season(1, 10, 0, 0)},
	}
}

// most is a book with as much of everything as there can be.
func most() api.ContractBook {
	b := api.ContractBook{Cash: slices.Repeat([]int{10000}, 6), Debts: slices.Repeat([]api.ContractDebt{debt(0, 1, 10000), debt(5, 4, 10000)}, 6)}
	for range 6 {
		b.Seasons = append(b.Seasons, season(100, 200, 200, 200, 200, 200, 200))
	}
	return b
}

func TestRightBooks(t *testing.T) { // P8.1, R3, R7
	for i, b := range []api.ContractBook{
		own(), most(),
		{Cash: []int{0}, Seasons: []api.ContractSeason{season(0, 0)}},
		{Cash: []int{0}, Debts: []api.ContractDebt{}, Seasons: []api.ContractSeason{season(0, 0)}},
		{Cash: []int{10000}, Seasons: []api.ContractSeason{season(100, 200)}},
		{Cash: []int{0, 0}, Debts: []api.ContractDebt{debt(1, 0, 1)}, Seasons: []api.ContractSeason{season(0, 0, 0)}},
		{Cash: []int{0, 0}, Debts: slices.Repeat([]api.ContractDebt{debt(0, 1, 1), debt(1, 0, 10000)}, 6), Seasons: slices.Repeat([]api.ContractSeason{season(1, 1, 1)}, 6)},
		{Cash: slices.Repeat([]int{7}, 6), Debts: []api.ContractDebt{debt(5, 0, 3), debt(0, 5, 3)}, Seasons: []api.ContractSeason{season(50, 1, 2, 3, 4, 5, 6)}},
	} {
		if e := contract.Check(b); e != api.OK {
			t.Errorf("Check of the book %d: %d", i, e)
		}
		for s := range b.Seasons {
			if _, e := contract.Clear(b, s); e != api.OK {
				t.Errorf("Clear of the book %d in the season %d: %d", i, s, e)
			}
		}
	}
}

// wrongBooks change the example's book to what is none.
func wrongBooks() map[string]func(b *api.ContractBook) {
	all := map[string]func(b *api.ContractBook){
		"nothing at all":    func(b *api.ContractBook) { *b = api.ContractBook{} },
		"no parties":        func(b *api.ContractBook) { *b = api.ContractBook{Seasons: []api.ContractSeason{season(1)}} },
		"one cash too few":  func(b *api.ContractBook) { b.Cash = b.Cash[:2] },
		"one cash too many": func(b *api.ContractBook) { b.Cash = append(b.Cash, 0) },
		"seven parties": func(b *api.ContractBook) {
			*b = api.ContractBook{Cash: make([]int, 7), Seasons: []api.ContractSeason{season(1, make([]int, 7)...)}}
		},
		"thirteen debts":      func(b *api.ContractBook) { b.Debts = slices.Repeat(b.Debts[:1], 13) },
		"far too many debts":  func(b *api.ContractBook) { b.Debts = slices.Repeat(b.Debts, 999) },
		"no seasons":          func(b *api.ContractBook) { b.Seasons = nil },
		"an empty list":       func(b *api.ContractBook) { b.Seasons = []api.ContractSeason{} },
		"seven seasons":       func(b *api.ContractBook) { b.Seasons = slices.Repeat(b.Seasons[:1], 7) },
		"no barrels":          func(b *api.ContractBook) { b.Seasons[2].Barrels = nil },
		"too few barrels":     func(b *api.ContractBook) { b.Seasons[0].Barrels = []int{50, 0} },
		"too many barrels":    func(b *api.ContractBook) { b.Seasons[1].Barrels = []int{50, 0, 0, 0} },
		"a debt to oneself":   func(b *api.ContractBook) { b.Debts[1].To = 0 },
		"another to oneself":  func(b *api.ContractBook) { b.Debts[2].From = 1 },
		"from and to nobody":  func(b *api.ContractBook) { b.Debts[2] = debt(-1, -2, 5) },
		"from and to no more": func(b *api.ContractBook) { b.Debts[0] = debt(3, 4, 5) },
	}
	// wrong says which numbers a place of the book cannot hold
	wrong := func(what string, place func(b *api.ContractBook) *int, numbers ...int) {
		for _, n := range append(numbers, -1, math.MinInt, math.MaxInt, -1<<32, 1<<32) {
			all[what+" of "+digits(n)] = func(b *api.ContractBook) { *place(b) = n }
		}
	}
	wrong("the first cash", func(b *api.ContractBook) *int { return &b.Cash[0] }, 10001)
	wrong("the last cash", func(b *api.ContractBook) *int { return &b.Cash[2] }, 10001)
	wrong("a debt from", func(b *api.ContractBook) *int { return &b.Debts[2].From }, 3, 6)
	wrong("a debt to", func(b *api.ContractBook) *int { return &b.Debts[0].To }, 3, 6)
	wrong("a debt due", func(b *api.ContractBook) *int { return &b.Debts[1].Due }, 0, 10001)
	wrong("the last debt due", func(b *api.ContractBook) *int { return &b.Debts[2].Due }, 0, 10001)
	wrong("the first price", func(b *api.ContractBook) *int { return &b.Seasons[0].Price }, 101)
	wrong("the last price", func(b *api.ContractBook) *int { return &b.Seasons[2].Price }, 101)
	wrong("the first barrels", func(b *api.ContractBook) *int { return &b.Seasons[0].Barrels[0] }, 201)
	wrong("the last barrels", func(b *api.ContractBook) *int { return &b.Seasons[2].Barrels[2] }, 201)
	return all
}

func TestWrongBooks(t *testing.T) { // P8.1, R1, R2
	for what, change := range wrongBooks() {
		b := own()
		change(&b)
		if e := contract.Check(b); e != api.ErrContract {
			t.Errorf("%s: Check: %d", what, e)
		}
		// the book is wrong whatever is asked
		for _, s := range []int{0, 2, -1, 3, math.MinInt, math.MaxInt} {
			for name, ask := range questions() {
				if l, e := ask(b, s); l != nil || e != api.ErrContract {
					t.Errorf("%s: %s in the season %d: %v, %d", what, name, s, l, e)
				}
			}
			for _, d := range []int{0, 2, -1, 3, math.MinInt, math.MaxInt} {
				if l, e := contract.Behind(b, s, d); l != nil || e != api.ErrContract {
					t.Errorf("%s: Behind of %d, %d: %v, %d", what, s, d, l, e)
				}
			}
		}
		if s, d, e := contract.Breaks(b); s != 0 || d != 0 || e != api.ErrContract {
			t.Errorf("%s: Breaks: %d, %d, %d", what, s, d, e)
		}
		if l, e := contract.Loans(b); l != nil || e != api.ErrContract {
			t.Errorf("%s: Loans: %v, %d", what, l, e)
		}
	}
}

// questions are the functions that are asked of a season.
func questions() map[string]func(b api.ContractBook, season int) ([]int, api.Errno) {
	return map[string]func(b api.ContractBook, season int) ([]int, api.Errno){
		"Clear": contract.Clear, "Rounds": contract.Rounds, "Left": contract.Left,
		"Behind": func(b api.ContractBook, season int) ([]int, api.Errno) { return contract.Behind(b, season, 0) },
	}
}

func TestWrongQuestions(t *testing.T) { // P8.1, P8.3, R1, R2
	lone := api.ContractBook{Cash: []int{5}, Seasons: []api.ContractSeason{season(1, 1)}}
	for _, b := range []api.ContractBook{own(), most(), lone} {
		seasons, debts := len(b.Seasons), len(b.Debts)
		for _, s := range []int{-1, seasons, seasons + 1, math.MinInt, math.MaxInt, 1 << 32, -1 << 32} {
			for name, ask := range questions() {
				if l, e := ask(b, s); l != nil || e != api.ErrContractAsk {
					t.Errorf("%s in the season %d of %d: %v, %d", name, s, seasons, l, e)
				}
			}
			if l, e := contract.Behind(b, s, -1); l != nil || e != api.ErrContractAsk {
				t.Errorf("Behind of nothing in the season %d of %d: %v, %d", s, seasons, l, e)
			}
		}
		for s := range seasons {
			for _, d := range []int{-1, debts, debts + 1, math.MinInt, math.MaxInt, 1 << 32, -1 << 32} {
				if l, e := contract.Behind(b, s, d); l != nil || e != api.ErrContractAsk {
					t.Errorf("Behind of the debt %d of %d in the season %d: %v, %d", d, debts, s, l, e)
				}
			}
		}
	}
}
