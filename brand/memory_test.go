package brand_test

import (
	"math"
	"math/rand/v2"
	"slices"
	"testing"

	"drifter/api"
	"drifter/brand"
)

// roomy returns a copy of a list with room behind it.
func roomy[T any](l []T) []T { return append(make([]T, 0, len(l)+20), l...) }

// behind reports whether something was written behind the end of a list.
func behind[T comparable](l []T) bool {
	var none T
	return slices.ContainsFunc(l[len(l):cap(l)], func(x T) bool { return x != none })
}

// rightPromise holds Promise to the chapter's example.
func rightPromise(t *testing.T, m []api.BrandMark, l []api.BrandBarrel) {
	t.Helper()
	if which, allow, e := brand.Promise(m, 10, rule(), l); which != 1 || allow != 1 || e != api.OK {
		t.Errorf("Promise: %d, %d, %d", which, allow, e)
	}
}

// Arguments are as they were, also behind the end of a list.
func TestArguments(t *testing.T) { // P7.7, R4
	m, l := roomy(marks()), roomy(opened())
	for range 2 {
		for _, b := range l {
			brand.Grade(m, b)
		}
		rightPromise(t, m, l)
		brand.Promise(m, 6, rule(), l)
		brand.Promise(m, 40, rule(), l)
	}
	if !slices.Equal(m, marks()) || !slices.Equal(l, opened()) {
		t.Errorf("the brands are %v, the barrels %v", m, l)
	}
	if behind(m) || behind(l) {
		t.Error("something was written behind an argument")
	}
}

// An argument that is changed later does not change what is called then.
func TestArgumentsAfterwards(t *testing.T) { // P7.7, R4, P2
	m, l := marks(), opened()
	rightPromise(t, m, l)
	brand.Grade(m, l[4])
	m[1][api.BrandPack], l[5] = to(0, 0), full()
	if which, allow, e := brand.Promise(m, 10, rule(), l); which != 0 || allow != 1 || e != api.OK {
		t.Errorf("Promise: %d, %d, %d", which, allow, e)
	}
	if n, e := brand.Grade(m, mattie()); n != 0 || e != api.ErrNone {
		t.Errorf("Grade: %d, %d", n, e)
	}
	rightPromise(t, marks(), opened())
}

// The same arguments have the same results, whatever was called before.
func TestTheSameAgain(t *testing.T) { // P2
	type told struct {
		odds   api.BrandOdds
		keeps  bool
		fewest api.BrandPlan
		below  api.Span
		e      api.Errno
	}
	tell := func(r *rand.Rand) (x told) {
		barrels := between(r, 1, api.BrandBarrels)
		p, a := anyPlan(r, barrels), anyRule(r, barrels)
		x.odds, _ = brand.Odds(barrels, between(r, 0, barrels), p)
		x.keeps, _ = brand.Keeps(barrels, a, p)
		x.fewest, _ = brand.Fewest(barrels, a)
		x.below, x.e = brand.Below(barrels, p.Open, p.Allow, anyOdds(r, 0.1))
		return x
	}
	for seed := range uint64(100) {
		first := tell(rand.New(rand.NewPCG(7, seed)))
		tell(rand.New(rand.NewPCG(8, seed)))
		if again := tell(rand.New(rand.NewPCG(7, seed))); again != first {
			t.Fatalf("%v, then %v", first, again)
		}
	}
}

// A nil list is an empty one.
func TestEmptyLists(t *testing.T) { // R3
	all := with(func(r *api.BrandRule) { r.Fail = of(1, 1) })
	for _, l := range [][]api.BrandBarrel{nil, {}} {
		if which, allow, e := brand.Promise(marks(), 10, all, l); which != 0 || allow != 0 || e != api.OK {
			t.Errorf("no barrels: %d, %d, %d", which, allow, e)
		}
	}
	for _, m := range [][]api.BrandMark{nil, {}} {
		if n, e := brand.Grade(m, full()); n != 0 || e != api.ErrBrand {
			t.Errorf("no brands: %d, %d", n, e)
		}
	}
}

// areMarks, areBarrels, areOdds and the like hold arguments to the chapter's words, each by itself.
func areMarks(l []api.BrandMark) bool {
	for _, m := range l {
		for _, s := range m {
			if s.Low < 0 || s.High < s.Low || s.High > 1000 {
				return false
			}
		}
	}
	return len(l) >= 1 && len(l) <= 5
}

func areBarrels(l ...api.BrandBarrel) bool {
	for _, b := range l {
		if slices.Min(b[:]) < 0 || slices.Max(b[:]) > 1000 {
			return false
		}
	}
	return true
}

func areOdds(o api.BrandOdds) bool { return o.In >= 1 && o.In <= 1000 && o.Of >= 0 && o.Of <= o.In }

// isLot reports whether a lot has so many barrels, of which so many can be some.
func isLot(barrels, some int) bool {
	return barrels >= 1 && barrels <= 40 && some >= 0 && some <= barrels
}

func isPlan(barrels int, p api.BrandPlan) bool {
	return p.Open >= 0 && p.Open <= barrels && p.Allow >= 0 && p.Allow <= p.Open
}

func isRule(barrels int, r api.BrandRule) bool {
	return r.Good >= 0 && r.Good < r.Bad && r.Bad <= barrels && areOdds(r.Pass) && areOdds(r.Fail)
}

// firstError returns the error of the first condition that is not so.
func firstError(conditions ...bool) int { return slices.Index(conditions, false) }

// Any numbers at all: most of them are wrong, and what is wrong is told in the order of the chapter.
func TestAnything(t *testing.T) { // P1, R1, R2
	r := rand.New(rand.NewPCG(7, 7))
	number := func() int {
		all := []int{math.MinInt, math.MinInt + 1, -1000, -2, -1, 0, 1, 2, 3, 5, 6, 39, 40, 41, 999, 1000, 1001, 1 << 31, 1 << 32, math.MaxInt - 1, math.MaxInt}
		if r.IntN(4) > 0 {
			return between(r, 0, 4)
		}
		return all[r.IntN(len(all))]
	}
	some := func() api.BrandOdds { return of(number(), number()) }
	// expect holds an error to the first condition that is not so; where all are, whether it is OK or ErrNone is tested elsewhere
	expect := func(what string, got api.Errno, zero bool, errors []api.Errno, conditions ...bool) {
		t.Helper()
		if i := firstError(conditions...); i >= 0 && got != errors[i] || i < 0 && got != api.OK && got != api.ErrNone || got != api.OK && !zero {
			t.Fatalf("%s: %d (%v)", what, got, conditions)
		}
	}
	fine := 0
	for range 30000 {
		var m []api.BrandMark
		for range 1 + r.IntN(2) {
			m = append(m, api.BrandMark{to(0, number()), to(number(), 1000), to(0, 1000), to(0, 5)})
		}
		l := make([]api.BrandBarrel, r.IntN(4))
		for i := range l {
			l[i] = api.BrandBarrel{number(), number(), 500, number()}
		}
		b := api.BrandBarrel{number(), number(), number(), number()}
		barrels, below, p := number(), number(), opens(number(), number())
		a := api.BrandRule{Good: number(), Pass: some(), Bad: number(), Fail: some()}
		doubt := some()
		n, e := brand.Grade(m, b)
		expect("Grade", e, n == 0, []api.Errno{api.ErrBrand, api.ErrBrandOpened}, areMarks(m), areBarrels(b))
		o, e := brand.Odds(barrels, below, p)
		expect("Odds", e, o == of(0, 0), []api.Errno{api.ErrRange, api.ErrBrandPlan}, isLot(barrels, below), isPlan(barrels, p))
		is, e := brand.Keeps(barrels, a, p)
		expect("Keeps", e, !is, []api.Errno{api.ErrRange, api.ErrBrandRule, api.ErrBrandPlan}, isLot(barrels, 0), isRule(barrels, a), isPlan(barrels, p))
		f, e := brand.Fewest(barrels, a)
		expect("Fewest", e, f == opens(0, 0), []api.Errno{api.ErrRange, api.ErrBrandRule}, isLot(barrels, 0), isRule(barrels, a))
		s, e := brand.Below(barrels, p.Open, p.Allow, doubt)
		expect("Below", e, s == to(0, 0), []api.Errno{api.ErrRange, api.ErrBrandRule}, isLot(barrels, p.Open) && isPlan(barrels, p), areOdds(doubt))
		which, allow, e := brand.Promise(m, barrels, a, l)
		expect("Promise", e, which == 0 && allow == 0, []api.Errno{api.ErrBrand, api.ErrRange, api.ErrBrandRule, api.ErrBrandOpened}, areMarks(m), isLot(barrels, 0), isRule(barrels, a), len(l) <= barrels && areBarrels(l...))
		if e == api.OK {
			fine++
		}
	}
	if fine < 5 {
		t.Errorf("only %d times all is well", fine)
	}
}
