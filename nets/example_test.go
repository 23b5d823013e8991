package nets_test

import (
	"fmt"

	"drifter/api"
	"drifter/nets"
)

func ExampleShift() { // the one of README.md
	f := api.NetsFleet{
		East: []api.Span{{Low: 10, High: 20}, {Low: 10, High: 20}, {Low: 10, High: 20}}, North: make([]api.Span, 3), Gap: 5,
		Nets: []api.NetsShot{
			{Long: 100, Along: api.NetsNorth, Shot: 0, Haul: 3},
			{At: api.NetsSpot{East: 25}, Long: 100, Along: api.NetsNorth, Shot: 1, Haul: 3},
		},
	}
	foul, e := nets.Can(f)
	fmt.Println(foul, e == api.OK)
	by, e := nets.Shift(f, 1, 100)
	fmt.Println(by, e == api.OK)
	// Output:
	// {1 0 1} true
	// 1 true
}
