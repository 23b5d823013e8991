package treaty_test

import (
	"fmt"

	"drifter/api"
	"drifter/treaty"
)

func ExampleShares() { // the one of README.md
	shares, e := treaty.Shares(api.TreatyClaims{Quota: 71, Rights: []int{10, 40, 60}})
	fmt.Println(shares, e == api.OK)
	// Output:
	// [10 31 30] true
}

func ExampleRings() { // the one of README.md
	w := [][]int{{2, 1, 0, 3}, {0, 1, 2, 3}, {1, 0, 2, 3}, {0, 3, 1, 2}}
	rings, e := treaty.Rings(w)
	fmt.Println(rings, e == api.OK)
	exchange, e := treaty.Swap(w)
	fmt.Println(exchange, e == api.OK)
	is, e := treaty.Better(w, []int{2, 1, 0, 3}, 1<<0|1<<1|1<<2)
	fmt.Println(is, e == api.OK)
	// Output:
	// [[0 2 1] [3]] true
	// [2 0 1 3] true
	// true true
}

func ExampleDeals() { // the one of README.md
	t := api.TreatyTrade{
		Curers:    [][]int{{0, 1}, {0}, {0, 1}},
		Countries: []api.TreatyCountry{{Room: 1, Likes: []int{1, 2, 0}}, {Room: 1, Likes: []int{0, 1, 2}}},
	}
	deals, e := treaty.Deals(t)
	fmt.Println(deals, e == api.OK)
	is, e := treaty.Stable(t, []int{0, -1, 1})
	fmt.Println(is, e == api.OK)
	// Output:
	// [1 0 -1] true
	// false true
}
