package share_test

import (
	"fmt"

	"drifter/api"
	"drifter/share"
)

func ExampleDivide() { // the one of README.md
	pence, e := share.Divide(10, []api.ShareStake{{Name: "b", Weight: 1}, {Name: "a", Weight: 1}, {Name: "c", Weight: 1}})
	fmt.Println(pence, e == api.OK)
	// Output: [3 4 3] true
}

func ExampleShares() { // the one of README.md
	v := api.ShareVoyage{
		Gross: 1000, Costs: []int{40, 19}, Boat: 3, Nets: 3, Crew: 2,
		Owners:  []api.ShareStake{{Name: "buckie", Weight: 5}, {Name: "cullen", Weight: 3}},
		Lenders: []api.ShareStake{{Name: "buckie", Weight: 20}, {Name: "eyemouth", Weight: 10}, {Name: "smith", Weight: 0}},
		Hands:   []api.ShareStake{{Name: "smith", Weight: 10}, {Name: "wick", Weight: 8}, {Name: "boy", Weight: 4}},
		Loans:   []api.ShareLoan{{From: "eyemouth", To: "smith", Nets: 10, Rent: 3}},
	}
	dues, e := share.Shares(v)
	fmt.Println(dues[4], e == api.OK)
	// Output: {smith 0 74 107} true
}

func ExampleClear() { // the one of README.md
	payments, e := share.Clear([]int{5, -3, -2, 4, -4, 0})
	fmt.Println(payments, e == api.OK)
	// Output: [{1 0 3} {2 0 2} {4 3 4}] true
}
