package contract_test

import (
	"fmt"

	"drifter/api"
	"drifter/contract"
)

func ExampleClear() { // the one of README.md
	b := api.ContractBook{
		Cash:  []int{20, 100, 0},
		Debts: []api.ContractDebt{{From: 0, To: 2, Due: 60}, {From: 0, To: 1, Due: 50}, {From: 2, To: 1, Due: 40}},
		Seasons: []api.ContractSeason{
			{Price: 2, Barrels: []int{50, 0, 0}}, {Price: 1, Barrels: []int{50, 0, 0}}, {Price: 1, Barrels: []int{10, 0, 0}},
		},
	}
	season, debt, e := contract.Breaks(b)
	fmt.Println(season, debt, e == api.OK)
	paid, e := contract.Clear(b, 2)
	fmt.Println(paid, e == api.OK)
	left, e := contract.Left(b, 2)
	fmt.Println(left, e == api.OK)
	l, e := contract.Behind(b, 2, 2)
	fmt.Println(l, e == api.OK)
	loans, e := contract.Loans(b)
	fmt.Println(loans, e == api.OK)
	// Output:
	// 1 1 true
	// [30 0 30] true
	// [0 130 0] true
	// [0 2] true
	// [80 0 0] true
}
