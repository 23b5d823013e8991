package shoal_test

import (
	"fmt"

	"drifter/api"
	"drifter/shoal"
)

func ExampleCan() { // the one of README.md
	sea := api.ShoalSea{Wide: 4, High: 1, Hours: 3, Drift: []api.ShoalStep{{East: 1}, {}}, Speed: 1}
	reports := []api.ShoalReport{{Hour: 0, Cell: 0, There: true}, {Hour: 2, Cell: 3, There: true}}
	cells, e := shoal.Can(sea, reports, 0, 1)
	fmt.Println(cells, e == api.OK)
	// Output: [2] true
}
