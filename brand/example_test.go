package brand_test

import (
	"fmt"

	"drifter/api"
	"drifter/brand"
)

func ExampleFewest() { // the one of README.md
	r := api.BrandRule{Good: 1, Pass: api.BrandOdds{Of: 9, In: 10}, Bad: 5, Fail: api.BrandOdds{Of: 1, In: 10}}
	p, e := brand.Fewest(10, r)
	fmt.Println(p, e == api.OK)
	odds, e := brand.Odds(10, 5, p)
	fmt.Println(odds, e == api.OK)
	s, e := brand.Below(10, 6, 1, api.BrandOdds{Of: 1, In: 10})
	fmt.Println(s, e == api.OK)
	// Output:
	// {6 1} true
	// {1 42} true
	// {1 4} true
}

func ExamplePromise() { // the one of README.md
	m := []api.BrandMark{
		{{Low: 250, High: 400}, {Low: 150, High: 300}, {Low: 120, High: 200}, {Low: 900, High: 1000}},
		{{Low: 200, High: 400}, {Low: 100, High: 300}, {Low: 100, High: 220}, {Low: 850, High: 1000}},
	}
	opened := []api.BrandBarrel{
		{260, 180, 150, 950}, {260, 180, 150, 950}, {260, 180, 150, 950}, {260, 180, 150, 950},
		{220, 180, 150, 950}, {260, 90, 150, 950},
	}
	grade, e := brand.Grade(m, opened[4])
	fmt.Println(grade, e == api.OK)
	r := api.BrandRule{Good: 1, Pass: api.BrandOdds{Of: 9, In: 10}, Bad: 5, Fail: api.BrandOdds{Of: 1, In: 10}}
	which, allow, e := brand.Promise(m, 10, r, opened)
	fmt.Println(which, allow, e == api.OK)
	// Output:
	// 1 true
	// 1 1 true
}
