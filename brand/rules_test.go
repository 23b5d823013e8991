package brand_test

import (
	"math"
	"math/rand/v2"
	"testing"

	"drifter/api"
	"drifter/brand"
)

// with returns the rule of the chapter's examples, changed.
func with(change func(r *api.BrandRule)) api.BrandRule {
	r := rule()
	change(&r)
	return r
}

// wrongRules are none of a lot of 10 barrels.
func wrongRules() map[string]api.BrandRule {
	return map[string]api.BrandRule{
		"nothing":                    {},
		"good that is bad":           with(func(r *api.BrandRule) { r.Good = 5 }),
		"good that is worse":         with(func(r *api.BrandRule) { r.Good = 6 }),
		"good below 0":               with(func(r *api.BrandRule) { r.Good = -1 }),
		"good far below 0":           with(func(r *api.BrandRule) { r.Good = math.MinInt }),
		"far too many good":          with(func(r *api.BrandRule) { r.Good = math.MaxInt }),
		"all good":                   with(func(r *api.BrandRule) { r.Good, r.Bad = 10, 11 }),
		"none bad":                   with(func(r *api.BrandRule) { r.Bad = 11 }),
		"far too many bad":           with(func(r *api.BrandRule) { r.Bad = math.MaxInt }),
		"bad below good":             with(func(r *api.BrandRule) { r.Bad = 0 }),
		"bad as good, both 0":        with(func(r *api.BrandRule) { r.Good, r.Bad = 0, 0 }),
		"bad below 0":                with(func(r *api.BrandRule) { r.Bad = -1 }),
		"bad far below 0":            with(func(r *api.BrandRule) { r.Bad = math.MinInt }),
		"both far below 0":           with(func(r *api.BrandRule) { r.Good, r.Bad = math.MinInt, math.MinInt }),
		"good of 0, bad far below 0": with(func(r *api.BrandRule) { r.Good, r.Bad = 0, math.MinInt }),
		"both far too many":          with(func(r *api.BrandRule) { r.Good, r.Bad = math.MaxInt, math.MinInt }),
		"pass of nothing":            with(func(r *api.BrandRule) { r.Pass = of(0, 0) }),
		"pass of less than nothing":  with(func(r *api.BrandRule) { r.Pass = of(-1, -1) }),
		"pass of too much":           with(func(r *api.BrandRule) { r.Pass = of(9, 1001) }),
		"too much pass":              with(func(r *api.BrandRule) { r.Pass = of(11, 10) }),
		"pass below 0":               with(func(r *api.BrandRule) { r.Pass = of(-1, 10) }),
		"far too much pass":          with(func(r *api.BrandRule) { r.Pass = of(math.MaxInt, math.MaxInt) }),
		"fail of nothing":            with(func(r *api.BrandRule) { r.Fail = of(0, 0) }),
		"fail of less than nothing":  with(func(r *api.BrandRule) { r.Fail = of(0, -10) }),
		"fail of too much":           with(func(r *api.BrandRule) { r.Fail = of(0, 1001) }),
		"too much fail":              with(func(r *api.BrandRule) { r.Fail = of(1000, 999) }),
		"fail below 0":               with(func(r *api.BrandRule) { r.Fail = of(-1, 10) }),
		"fail far below 0":           with(func(r *api.BrandRule) { r.Fail = of(math.MinInt, math.MinInt) }),
	}
}

func TestRulesThatAreWrong(t *testing.T) { // P7.3, P7.4, P7.6
	for what, a := range wrongRules() {
		for _, p := range []api.BrandPlan{opens(6, 1), opens(0, 0), opens(-1, 0), opens(5, 6)} {
			if is, e := brand.Keeps(10, a, p); is || e != api.ErrBrandRule {
				t.Errorf("%s: Keeps of %v: %v, %d", what, p, is, e)
			}
		}
		if p, e := brand.Fewest(10, a); p != opens(0, 0) || e != api.ErrBrandRule {
			t.Errorf("%s: Fewest %v, %d", what, p, e)
		}
		for _, l := range [][]api.BrandBarrel{nil, opened(), {{-1}}, make([]api.BrandBarrel, 11)} {
			if which, allow, e := brand.Promise(marks(), 10, a, l); which != 0 || allow != 0 || e != api.ErrBrandRule {
				t.Errorf("%s: Promise of %v: %d, %d, %d", what, l, which, allow, e)
			}
		}
	}
	for _, barrels := range []int{0, 41, -1, math.MinInt, math.MaxInt} {
		for _, a := range []api.BrandRule{rule(), {}} {
			for _, p := range []api.BrandPlan{opens(0, 0), opens(6, 1), opens(-1, 0)} {
				if is, e := brand.Keeps(barrels, a, p); is || e != api.ErrRange {
					t.Errorf("%d barrels: Keeps of %v, %v: %v, %d", barrels, a, p, is, e)
				}
			}
			if p, e := brand.Fewest(barrels, a); p != opens(0, 0) || e != api.ErrRange {
				t.Errorf("%d barrels: Fewest of %v: %v, %d", barrels, a, p, e)
			}
		}
	}
	for _, p := range []api.BrandPlan{opens(11, 1), opens(-1, 0), opens(-1, -1), opens(6, 7), opens(6, -1), opens(0, 1), opens(math.MaxInt, 1), opens(math.MinInt, math.MinInt), opens(6, math.MaxInt), opens(6, math.MinInt)} {
		if is, e := brand.Keeps(10, rule(), p); is || e != api.ErrBrandPlan {
			t.Errorf("Keeps of %v: %v, %d", p, is, e)
		}
	}
}

func TestRules(t *testing.T) { // P7.3, P7.4
	all := with(func(r *api.BrandRule) { r.Pass, r.Fail = of(1, 1), of(1, 1) })
	seldom := with(func(r *api.BrandRule) { r.Pass = of(0, 1) })
	strict := api.BrandRule{Good: 4, Pass: of(1, 1), Bad: 5, Fail: of(0, 1)}
	for i, x := range []struct {
		barrels int
		r       api.BrandRule
		p       api.BrandPlan
		keeps   bool
		fewest  api.BrandPlan
	}{
		{10, rule(), opens(5, 1), false, opens(6, 1)}, {10, rule(), opens(6, 1), true, opens(6, 1)}, {10, rule(), opens(10, 1), true, opens(6, 1)},
		{10, rule(), opens(6, 2), false, opens(6, 1)}, {10, rule(), opens(6, 0), false, opens(6, 1)}, {10, rule(), opens(0, 0), false, opens(6, 1)},
		{10, rule(), opens(10, 4), true, opens(6, 1)}, {10, rule(), opens(10, 5), false, opens(6, 1)}, {10, rule(), opens(10, 0), false, opens(6, 1)},
		{10, all, opens(0, 0), true, opens(0, 0)}, {10, all, opens(10, 10), true, opens(0, 0)}, {10, all, opens(1, 0), false, opens(0, 0)}, {10, all, opens(10, 1), true, opens(0, 0)},
		{10, seldom, opens(2, 0), false, opens(3, 0)}, {10, seldom, opens(3, 0), true, opens(3, 0)}, {10, seldom, opens(3, 1), false, opens(3, 0)},
		{10, strict, opens(9, 4), false, opens(10, 4)}, {10, strict, opens(10, 4), true, opens(10, 4)}, {10, strict, opens(10, 3), false, opens(10, 4)}, {10, strict, opens(10, 5), false, opens(10, 4)},
		{1, api.BrandRule{Good: 0, Pass: of(1, 1), Bad: 1, Fail: of(0, 1)}, opens(1, 0), true, opens(1, 0)},
		{1, api.BrandRule{Good: 0, Pass: of(1, 1000), Bad: 1, Fail: of(1000, 1000)}, opens(1, 1), true, opens(0, 0)},
		// 1 of 2 is just as much as is asked for, at least and at most
		{2, api.BrandRule{Good: 1, Pass: of(1, 2), Bad: 2, Fail: of(0, 1)}, opens(1, 0), true, opens(1, 0)}, {2, api.BrandRule{Good: 1, Pass: of(501, 1000), Bad: 2, Fail: of(0, 1)}, opens(1, 0), false, opens(2, 1)},
		{2, api.BrandRule{Good: 0, Pass: of(1, 1), Bad: 1, Fail: of(500, 1000)}, opens(1, 0), true, opens(1, 0)}, {2, api.BrandRule{Good: 0, Pass: of(1, 1), Bad: 1, Fail: of(499, 1000)}, opens(1, 0), false, opens(2, 0)},
		{40, api.BrandRule{Good: 39, Pass: of(1, 1), Bad: 40, Fail: of(0, 1)}, opens(40, 39), true, opens(40, 39)},
		{40, api.BrandRule{Good: 20, Pass: of(1, 1), Bad: 21, Fail: of(0, 1)}, opens(39, 20), false, opens(40, 20)},
		{40, api.BrandRule{Good: 0, Pass: of(1, 1), Bad: 40, Fail: of(0, 1)}, opens(1, 0), true, opens(1, 0)}, {40, api.BrandRule{Good: 0, Pass: of(0, 1), Bad: 1, Fail: of(0, 1)}, opens(39, 0), false, opens(40, 0)},
	} {
		if is, e := brand.Keeps(x.barrels, x.r, x.p); is != x.keeps || e != api.OK {
			t.Errorf("Keeps %d: %v, %d", i, is, e)
		}
		if p, e := brand.Fewest(x.barrels, x.r); p != x.fewest || e != api.OK {
			t.Errorf("Fewest %d: %v, %d", i, p, e)
		}
	}
}

func TestRulesOfAny(t *testing.T) { // P7.3, P7.4
	r, k := rand.New(rand.NewPCG(7, 3)), teller{}
	kept, broken, barrelsMore := 0, 0, 0
	for i := range 1500 {
		barrels := between(r, 1, 10)
		if i%25 == 0 {
			barrels = between(r, 11, api.BrandBarrels)
		}
		a := anyRule(r, barrels)
		want := k.fewest(barrels, a)
		if p, e := brand.Fewest(barrels, a); p != want || e != api.OK {
			t.Fatalf("Fewest of %d, %v: %v, %d, not %v", barrels, a, p, e, want)
		}
		if want.Allow > 0 && want.Open < barrels {
			barrelsMore++
		}
		for _, p := range []api.BrandPlan{anyPlan(r, barrels), anyPlan(r, barrels), want, opens(want.Open, min(want.Open, want.Allow+1)), opens(min(barrels, want.Open+1), want.Allow)} {
			want := k.keeps(barrels, a, p)
			if want {
				kept++
			} else {
				broken++
			}
			if is, e := brand.Keeps(barrels, a, p); is != want || e != api.OK {
				t.Fatalf("Keeps of %d, %v, %v: %v, %d", barrels, a, p, is, e)
			}
		}
	}
	if kept < 500 || broken < 500 || barrelsMore < 200 {
		t.Errorf("only %d plans keep a rule, %d do not, %d are in between", kept, broken, barrelsMore)
	}
}
