package auction_test

import (
	"fmt"

	"drifter/api"
	"drifter/auction"
)

func ExampleSell() { // the one of README.md
	s := api.AuctionSale{Crans: 3, Least: 4, Offers: [][]int{{20, 12, 5}, {15, 14}, {10, 3}}}
	deals, e := auction.Sell(s)
	fmt.Println(deals, e == api.OK)
	price, e := auction.Price(s, []int{2, 1, 0})
	fmt.Println(price, e == api.OK)
	// Output:
	// [{1 10} {2 22} {0 0}] true
	// 14 true
}

func ExampleLots() { // the one of README.md
	lots, e := auction.Lots([]api.Span{{Low: 10, High: 20}, {Low: 15, High: 30}, {Low: 18, High: 19}, {Low: 25, High: 40}, {Low: 5, High: 26}})
	fmt.Println(lots, e == api.OK)
	// Output: [0 3] true
}
