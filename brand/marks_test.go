package brand_test

import (
	"math"
	"math/rand/v2"
	"slices"
	"testing"

	"drifter/api"
	"drifter/brand"
)

// marks are the brands of the chapter's examples.
func marks() []api.BrandMark {
	return []api.BrandMark{
		{to(250, 400), to(150, 300), to(120, 200), to(900, 1000)},
		{to(200, 400), to(100, 300), to(100, 220), to(850, 1000)},
	}
}

// rule is the one of the chapter's examples.
func rule() api.BrandRule { return api.BrandRule{Good: 1, Pass: of(9, 10), Bad: 5, Fail: of(1, 10)} }

// full is a barrel that reaches both brands of the examples, mattie one that reaches only the second, and spent one that reaches none.
func full() api.BrandBarrel   { return api.BrandBarrel{260, 180, 150, 950} }
func mattie() api.BrandBarrel { return api.BrandBarrel{220, 180, 150, 950} }
func spent() api.BrandBarrel  { return api.BrandBarrel{260, 90, 150, 950} }

// opened are the barrels of the chapter's examples.
func opened() []api.BrandBarrel {
	return []api.BrandBarrel{full(), full(), full(), full(), mattie(), spent()}
}

// wrongMarks change brands to what are none.
func wrongMarks() map[string]func(m []api.BrandMark) []api.BrandMark {
	with := func(i, quality int, s api.Span) func(m []api.BrandMark) []api.BrandMark {
		return func(m []api.BrandMark) []api.BrandMark {
			m[i][quality] = s
			return m
		}
	}
	return map[string]func(m []api.BrandMark) []api.BrandMark{
		"no brands":             func(m []api.BrandMark) []api.BrandMark { return nil },
		"an empty list":         func(m []api.BrandMark) []api.BrandMark { return m[:0] },
		"six brands":            func(m []api.BrandMark) []api.BrandMark { return slices.Repeat(m, 3) },
		"far too many":          func(m []api.BrandMark) []api.BrandMark { return slices.Repeat(m, 999) },
		"a length below 0":      with(0, api.BrandLength, to(-1, 400)),
		"a length that is none": with(1, api.BrandLength, to(201, 200)),
		"too great a length":    with(1, api.BrandLength, to(200, 1001)),
		"a fat below 0":         with(1, api.BrandFat, to(-5, -1)),
		"a fat that is none":    with(0, api.BrandFat, to(300, 150)),
		"too great a fat":       with(0, api.BrandFat, to(1001, 1001)),
		"a salt below 0":        with(0, api.BrandSalt, to(math.MinInt, 200)),
		"a salt that is none":   with(1, api.BrandSalt, to(math.MaxInt, math.MinInt)),
		"too great a salt":      with(0, api.BrandSalt, to(0, math.MaxInt)),
		"a pack below 0":        with(1, api.BrandPack, to(-1, 0)),
		"a pack that is none":   with(0, api.BrandPack, to(1000, 999)),
		"too great a pack":      with(1, api.BrandPack, to(850, 1001)),
	}
}

func TestMarksThatAreWrong(t *testing.T) { // P7.1, P7.6
	for what, change := range wrongMarks() {
		for _, b := range []api.BrandBarrel{full(), spent(), {-1}, {0, 0, 0, 1001}} {
			if n, e := brand.Grade(change(marks()), b); n != 0 || e != api.ErrBrand {
				t.Errorf("%s: Grade of %v: %d, %d", what, b, n, e)
			}
		}
		for _, l := range [][]api.BrandBarrel{nil, opened(), {{-1}}} {
			for _, barrels := range []int{10, 0, 41} {
				for _, r := range []api.BrandRule{rule(), {}} {
					if which, allow, e := brand.Promise(change(marks()), barrels, r, l); which != 0 || allow != 0 || e != api.ErrBrand {
						t.Errorf("%s: Promise of %d, %v, %v: %d, %d, %d", what, barrels, r, l, which, allow, e)
					}
				}
			}
		}
	}
}

func TestGrade(t *testing.T) { // P7.1
	widest := api.BrandMark{to(0, 1000), to(0, 1000), to(0, 1000), to(0, 1000)}
	point := api.BrandMark{to(1000, 1000), to(0, 0), to(500, 500), to(7, 7)}
	five := append(slices.Repeat([]api.BrandMark{{}}, 3), point, widest)
	for i, x := range []struct {
		m    []api.BrandMark
		b    api.BrandBarrel
		want int
		e    api.Errno
	}{
		{marks(), full(), 0, api.OK}, {marks(), mattie(), 1, api.OK}, {marks(), spent(), 0, api.ErrNone},
		{marks()[:1], full(), 0, api.OK}, {marks()[:1], mattie(), 0, api.ErrNone}, {marks()[1:], mattie(), 0, api.OK}, {marks()[1:], full(), 0, api.OK},
		{[]api.BrandMark{marks()[1], marks()[0]}, full(), 0, api.OK}, // the first one, not the narrowest
		// the ends of all spans are within them, and nothing beyond is
		{marks(), api.BrandBarrel{250, 150, 120, 900}, 0, api.OK}, {marks(), api.BrandBarrel{400, 300, 200, 1000}, 0, api.OK},
		{marks(), api.BrandBarrel{249, 150, 120, 900}, 1, api.OK}, {marks(), api.BrandBarrel{250, 149, 120, 900}, 1, api.OK}, {marks(), api.BrandBarrel{250, 150, 119, 900}, 1, api.OK}, {marks(), api.BrandBarrel{250, 150, 120, 899}, 1, api.OK},
		{marks(), api.BrandBarrel{400, 300, 201, 1000}, 1, api.OK}, {marks(), api.BrandBarrel{400, 300, 220, 1000}, 1, api.OK}, {marks(), api.BrandBarrel{400, 300, 221, 1000}, 0, api.ErrNone},
		{marks(), api.BrandBarrel{401, 300, 200, 1000}, 0, api.ErrNone}, {marks(), api.BrandBarrel{400, 301, 200, 1000}, 0, api.ErrNone},
		{marks(), api.BrandBarrel{200, 100, 100, 850}, 1, api.OK}, {marks(), api.BrandBarrel{199, 100, 100, 850}, 0, api.ErrNone}, {marks(), api.BrandBarrel{200, 99, 100, 850}, 0, api.ErrNone}, {marks(), api.BrandBarrel{200, 100, 99, 850}, 0, api.ErrNone}, {marks(), api.BrandBarrel{200, 100, 100, 849}, 0, api.ErrNone},
		{five, api.BrandBarrel{}, 0, api.OK}, {five, api.BrandBarrel{1000, 0, 500, 7}, 3, api.OK}, {five, api.BrandBarrel{1000, 0, 500, 8}, 4, api.OK}, {five, api.BrandBarrel{1000, 1000, 1000, 1000}, 4, api.OK}, {five[:4], api.BrandBarrel{1000, 0, 499, 7}, 0, api.ErrNone},
		// what is no barrel
		{marks(), api.BrandBarrel{-1, 180, 150, 950}, 0, api.ErrBrandOpened}, {marks(), api.BrandBarrel{260, -1, 150, 950}, 0, api.ErrBrandOpened}, {marks(), api.BrandBarrel{260, 180, -1, 950}, 0, api.ErrBrandOpened}, {marks(), api.BrandBarrel{260, 180, 150, -1}, 0, api.ErrBrandOpened},
		{marks(), api.BrandBarrel{1001, 180, 150, 950}, 0, api.ErrBrandOpened}, {marks(), api.BrandBarrel{260, 1001, 150, 950}, 0, api.ErrBrandOpened}, {marks(), api.BrandBarrel{260, 180, 1001, 950}, 0, api.ErrBrandOpened}, {marks(), api.BrandBarrel{260, 180, 150, 1001}, 0, api.ErrBrandOpened},
		{five, api.BrandBarrel{math.MinInt}, 0, api.ErrBrandOpened}, {five, api.BrandBarrel{0, 0, 0, math.MaxInt}, 0, api.ErrBrandOpened},
	} {
		if n, e := brand.Grade(x.m, x.b); n != x.want || e != x.e {
			t.Errorf("Grade %d: %d, %d", i, n, e)
		}
	}
}

func TestGradeOfAny(t *testing.T) { // P7.1
	r := rand.New(rand.NewPCG(7, 1))
	var seen [api.BrandMarks + 1]int
	for range 3000 {
		m := anyMarks(r)
		b := anyBarrels(r, m, 1)[0]
		want := slices.IndexFunc(m, func(m api.BrandMark) bool { return reaches(m, b) })
		n, e := brand.Grade(m, b)
		if want < 0 && (n != 0 || e != api.ErrNone) || want >= 0 && (n != want || e != api.OK) {
			t.Fatalf("Grade of %v, %v: %d, %d", m, b, n, e)
		}
		seen[want+1]++
	}
	if slices.Min(seen[:]) < 20 {
		t.Errorf("some brands are hardly reached: %v", seen)
	}
}

func TestPromise(t *testing.T) { // P7.6
	free := api.BrandRule{Good: 0, Pass: of(0, 1), Bad: 1, Fail: of(1, 1)}
	worse := []api.BrandBarrel{full(), full(), full(), full(), full(), spent()}
	for i, x := range []struct {
		m            []api.BrandMark
		barrels      int
		r            api.BrandRule
		opened       []api.BrandBarrel
		which, allow int
		e            api.Errno
	}{
		{marks(), 10, rule(), opened(), 1, 1, api.OK},
		{marks(), 10, rule(), opened()[:4], 0, 0, api.ErrNone}, // no plan with so few openings keeps the rule
		{marks()[:1], 10, rule(), opened(), 0, 0, api.ErrNone}, // two are below, and one is allowed
		{marks()[1:], 10, rule(), opened(), 0, 1, api.OK},
		{marks(), 10, rule(), worse, 0, 1, api.OK},
		{[]api.BrandMark{marks()[1], marks()[0]}, 10, rule(), worse, 0, 1, api.OK},
		{append(slices.Repeat([]api.BrandMark{{}}, 4), marks()[1]), 10, rule(), opened(), 4, 1, api.OK},
		{marks(), 10, rule(), append(opened(), spent()), 1, 2, api.OK}, // one more is opened, and one more is allowed
		{marks(), 10, rule(), append(opened(), spent(), spent()), 0, 0, api.ErrNone},
		// where all are opened, as many are allowed as are not bad
		{marks(), 10, rule(), append(opened(), opened()[2:]...), 0, 4, api.OK},
		{marks(), 10, rule(), append(opened()[1:], opened()[1:]...), 0, 4, api.OK},
		{marks(), 10, rule(), append(opened(), mattie(), mattie(), mattie(), spent()), 1, 4, api.OK},
		{marks(), 6, rule(), slices.Repeat([]api.BrandBarrel{mattie()}, 6), 1, 4, api.OK},
		{marks(), 6, rule(), append(opened()[:1], slices.Repeat([]api.BrandBarrel{spent()}, 5)...), 0, 0, api.ErrNone},
		// none need be opened if any lot may pass
		{marks(), 10, free, nil, 0, 0, api.OK}, {marks(), 10, free, []api.BrandBarrel{}, 0, 0, api.OK}, {marks(), 10, rule(), nil, 0, 0, api.ErrNone},
		{marks(), 40, free, slices.Repeat([]api.BrandBarrel{spent()}, 40), 0, 40, api.OK},
		{marks(), 1, free, []api.BrandBarrel{spent()}, 0, 1, api.OK},
		{marks(), 1, api.BrandRule{Good: 0, Pass: of(1, 1), Bad: 1, Fail: of(0, 1)}, []api.BrandBarrel{mattie()}, 1, 0, api.OK},
		{marks(), 1, api.BrandRule{Good: 0, Pass: of(1, 1), Bad: 1, Fail: of(0, 1)}, []api.BrandBarrel{spent()}, 0, 0, api.ErrNone},
	} {
		if which, allow, e := brand.Promise(x.m, x.barrels, x.r, x.opened); which != x.which || allow != x.allow || e != x.e {
			t.Errorf("Promise %d: %d, %d, %d", i, which, allow, e)
		}
	}
}

func TestPromisesThatAreWrong(t *testing.T) { // P7.6
	bad := append(opened(), api.BrandBarrel{260, 180, 150, 1001})
	for i, x := range []struct {
		barrels int
		r       api.BrandRule
		opened  []api.BrandBarrel
		e       api.Errno
	}{
		{0, rule(), opened(), api.ErrRange}, {0, api.BrandRule{}, bad, api.ErrRange}, {41, rule(), bad, api.ErrRange}, {-1, rule(), nil, api.ErrRange}, {math.MinInt, rule(), nil, api.ErrRange}, {math.MaxInt, rule(), nil, api.ErrRange},
		{10, api.BrandRule{}, opened(), api.ErrBrandRule}, {10, api.BrandRule{}, bad, api.ErrBrandRule}, {4, rule(), opened(), api.ErrBrandRule},
		{6, rule(), append(opened(), full()), api.ErrBrandOpened}, {6, rule(), bad, api.ErrBrandOpened}, {10, rule(), bad, api.ErrBrandOpened}, {40, rule(), slices.Repeat(opened(), 7), api.ErrBrandOpened},
		{10, rule(), []api.BrandBarrel{{-1}}, api.ErrBrandOpened}, {10, rule(), append([]api.BrandBarrel{{0, -1}}, opened()...), api.ErrBrandOpened}, {10, rule(), []api.BrandBarrel{{0, 0, math.MaxInt}}, api.ErrBrandOpened}, {10, rule(), []api.BrandBarrel{{0, 0, 0, math.MinInt}, spent()}, api.ErrBrandOpened},
		{10, rule(), make([]api.BrandBarrel, 1000), api.ErrBrandOpened},
	} {
		if which, allow, e := brand.Promise(marks(), x.barrels, x.r, x.opened); which != 0 || allow != 0 || e != x.e {
			t.Errorf("Promise %d: %d, %d, %d", i, which, allow, e)
		}
	}
}

func TestPromiseOfAny(t *testing.T) { // P7.6
	r, k := rand.New(rand.NewPCG(7, 6)), teller{}
	promised, not := [api.BrandMarks]int{}, 0
	for i := range 2500 {
		barrels := between(r, 1, 12)
		if i%10 == 0 {
			barrels = between(r, 13, api.BrandBarrels)
		}
		m, a := anyMarks(r), anyRule(r, barrels)
		l := anyBarrels(r, m, between(r, barrels/2, barrels))
		wantWhich, wantAllow := k.promise(m, barrels, a, l)
		which, allow, e := brand.Promise(m, barrels, a, l)
		if wantWhich < 0 {
			not++
			if which != 0 || allow != 0 || e != api.ErrNone {
				t.Fatalf("Promise of %v, %d, %v, %v: %d, %d, %d", m, barrels, a, l, which, allow, e)
			}
			continue
		}
		promised[wantWhich]++
		if which != wantWhich || allow != wantAllow || e != api.OK {
			t.Fatalf("Promise of %v, %d, %v, %v: %d, %d, %d, not %d, %d", m, barrels, a, l, which, allow, e, wantWhich, wantAllow)
		}
	}
	if slices.Min(promised[:]) < 20 || not < 200 {
		t.Errorf("some brands are hardly promised: %v, %d", promised, not)
	}
}
