package clerk_test

import (
	"fmt"

	"drifter/api"
	"drifter/clerk"
)

func ExampleQuay() { // the one of README.md
	s := api.ClerkSetup{
		Boats: []api.ClerkBoat{
			{Name: "lugger", V: api.ShareVoyage{Crew: 8, Hands: []api.ShareStake{{Name: "jock", Weight: 2}, {Name: "boy", Weight: 1}}}},
		},
		Buyers: []string{"curer", "kiln"}, Least: 4, Day: 100,
		Marks: []api.BrandMark{{{Low: 250, High: 400}, {Low: 150, High: 300}, {Low: 120, High: 200}, {Low: 900, High: 1000}}},
		Rule:  api.BrandRule{Good: 1, Pass: api.BrandOdds{Of: 9, In: 10}, Bad: 5, Fail: api.BrandOdds{Of: 1, In: 10}},
	}
	q, e := clerk.New(s)
	fmt.Println(e == api.OK)
	for _, line := range []string{
		"land lugger 2", "offer curer 20 12", "offer kiln 15", "sell", "owes kiln",
		"cost lugger 5", "settle lugger", "sheet", "pay jock 6", "pay jock 6",
	} {
		answer, e := q.Do(line)
		fmt.Println(answer, e)
	}
	again, at, e := clerk.Open(s, q.File())
	fmt.Println(again.Dues(), at, e == api.OK)
	// Output:
	// true
	// 2 0
	// 2 0
	// 1 0
	// 2 16 0
	// 12 0
	//  0
	// 11 0
	// boy 4 jock 7 0
	// 1 0
	//  115
	// [{boy 4} {jock 1}] 7 true
}
