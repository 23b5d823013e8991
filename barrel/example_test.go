package barrel_test

import (
	"fmt"

	"drifter/api"
	"drifter/barrel"
)

func ExampleSet() { // the one of README.md
	l, e := barrel.Set(api.BarrelPile{Staves: []int{6, 5, 2, 1}, Girth: 7})
	fmt.Println(len(l), e == api.OK)
	// Output: 2 true
}

func ExampleKeep() { // the one of README.md
	y := []api.BarrelCask{
		{Level: 50, Full: 60, Line: 20, Leak: api.Span{Low: 5, High: 10}},
		{Level: 40, Full: 60, Line: 30, Leak: api.Span{Low: 2, High: 8}},
	}
	which, month, e := barrel.First(y, 12)
	fmt.Println(which, month, e == api.OK)
	plan, e := barrel.Keep(y, 4)
	fmt.Println(len(plan), plan[0], e == api.OK)
	levels, dry, e := barrel.Run(y, []int{1, 0}, [][]int{{10, 8}, {5, 2}})
	fmt.Println(levels, dry, e == api.OK)
	// Output:
	// 1 1 true
	// 4 1 true
	// [60 58] -1 true
}

func ExampleBalance() { // the one of README.md
	b := api.BarrelBook{Stations: 3, Moves: []api.BarrelMove{
		{From: 0, To: 1, Count: api.Span{Low: 10, High: 20}}, {From: 1, To: 2, Count: api.Span{Low: 5, High: 12}},
		{From: 1, To: 0, Count: api.Span{Low: 2, High: 4}}, {From: 2, To: 0, Count: api.Span{Low: 0, High: 9}},
	}}
	l, e := barrel.Balance(b)
	fmt.Println(l, e == api.OK)
	b.Moves[3].Count.High = 4
	set, e := barrel.Proof(b)
	fmt.Println(set > 0, e == api.OK)
	// Output:
	// [{10 13} {6 9} {2 4} {6 9}] true
	// true true
}
