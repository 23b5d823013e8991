package gut_test

import (
	"fmt"

	"drifter/api"
	"drifter/gut"
)

func ExampleBest() { // the one of README.md
	d := api.GutDay{
		Hours: 4, Heat: []api.Span{{Low: 5, High: 6}, {Low: 5, High: 8}, {Low: 6, High: 10}, {Low: 6, High: 10}},
		Lots:    []api.GutLot{{Crans: 10, Landed: 0, Keep: 20, Fit: 1 << api.GutCrew}},
		Workers: []api.GutWorker{{Kind: api.GutCrew, From: 0, To: 3, Rate: 3}},
	}
	plan, lost, e := gut.Best(d)
	fmt.Println(plan, lost, e == api.OK)
	lots, e := gut.Proof(d)
	fmt.Println(lots, e == api.OK)
	told, e := gut.Told(d)
	fmt.Println(told, e == api.OK)
	which, lost, e := gut.Help(d, []api.GutWorker{{Kind: api.GutKiln, From: 0, To: 3, Rate: 9}, {Kind: api.GutCrew, From: 1, To: 1, Rate: 3}})
	fmt.Println(which, lost, e == api.OK)
	// Output:
	// [{0 0 0 3} {0 0 1 3}] 4 true
	// [0] true
	// {1 4} true
	// 1 1 true
}
