package stock_test

import (
	"fmt"

	"drifter/api"
	"drifter/stock"
)

func ExampleAged() { // the one of README.md
	l := []api.StockScale{
		{Seen: 30, Age: api.Span{Low: 2, High: 2}}, {Seen: 20, Age: api.Span{Low: 3, High: 4}}, {Seen: 10, Age: api.Span{Low: 4, High: 6}},
	}
	s, e := stock.Aged(l, 4, 6)
	fmt.Println(s, e == api.OK)
	races := [][]api.Span{{{Low: 60, High: 70}, {Low: 30, High: 40}}, {{Low: 20, High: 30}, {Low: 70, High: 80}}}
	shares, e := stock.Shares(races, []api.Span{{Low: 45, High: 50}, {Low: 50, High: 55}})
	fmt.Println(shares, e == api.OK)
	// Output:
	// {10 30} true
	// [{38 75} {25 62}] true
}

func ExampleQuota() { // the one of README.md
	a := api.StockRace{Numbers: []int{100, 50, 20}, Keep: []int{800, 700, 500}, Spawn: []int{0, 1, 2}, Line: 60, Mesh: 1}
	b := api.StockRace{Numbers: []int{60, 60}, Keep: []int{500, 500}, Spawn: []int{1, 1}, Line: 50, Mesh: 0}
	f := api.StockFishery{
		Races: []api.StockRace{a, b}, Most: []int{40, 80},
		Seasons: [][][]int{{{90, 80}, {10, 10}}, {{0, 0}, {0, 0}}},
	}
	l, e := stock.Play(a, []int{30, 30}, []int{90, 80})
	fmt.Println(l, e == api.OK)
	quota, e := stock.Quota(f)
	fmt.Println(quota, e == api.OK)
	race, season, year, e := stock.First(f, 8)
	fmt.Println(race, season, year, e == api.OK)
	// Output:
	// [40 78] true
	// 7 true
	// 1 1 1 true
}

func ExampleBoxes() { // the one of README.md
	cells := []api.StockCell{{Spawners: 50, Landings: 8}, {Spawners: 30, Landings: 5}, {Spawners: 20, Landings: 1}, {Spawners: 10, Landings: 4}}
	chosen, spared, lost, e := stock.Boxes(cells, [][]int{{0, 1}, {1, 2}, {2, 3}}, 2)
	fmt.Println(chosen, spared, lost, e == api.OK)
	// Output:
	// [0 2] 110 18 true
}
