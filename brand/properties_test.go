package brand_test

import (
	"math/big"
	"math/rand/v2"
	"slices"
	"testing"

	"drifter/api"
	"drifter/brand"
)

// odds returns what Odds tells, held to be a fraction.
func odds(t *testing.T, barrels, below int, p api.BrandPlan) *big.Rat {
	t.Helper()
	o, e := brand.Odds(barrels, below, p)
	if e != api.OK || o.In < 1 || o.Of < 0 || o.Of > o.In {
		t.Fatalf("Odds of %d, %d, %v: %v, %d", barrels, below, p, o, e)
	}
	return rat(o)
}

func fewest(t *testing.T, barrels int, a api.BrandRule) api.BrandPlan {
	t.Helper()
	p, e := brand.Fewest(barrels, a)
	if e != api.OK {
		t.Fatalf("Fewest of %d, %v: %d", barrels, a, e)
	}
	return p
}

func TestTheOdds(t *testing.T) { // P7.8
	for barrels := 1; barrels <= 9; barrels++ {
		for below := range barrels + 1 {
			for open := range barrels + 1 {
				for allow := range open + 1 {
					some, all := allChoices(barrels, below, open, 0, allow)
					if o := odds(t, barrels, below, opens(open, allow)); o.Cmp(big.NewRat(int64(some), int64(all))) != 0 {
						t.Fatalf("%d barrels, %d of them below: %d of %d choices of %d pass with %d, not %v", barrels, below, some, all, open, allow, o)
					}
				}
			}
		}
	}
}

// rest returns the odds of the barrels that are left when one is opened, of which these are allowed then.
func rest(t *testing.T, barrels, below, open, allow int) *big.Rat {
	t.Helper()
	switch {
	case allow < 0:
		return big.NewRat(0, 1)
	case barrels == 0:
		return big.NewRat(1, 1)
	}
	return odds(t, barrels, below, opens(open, min(allow, open)))
}

func TestTheFirstBarrelOpened(t *testing.T) { // P7.8
	r := rand.New(rand.NewPCG(7, 8))
	for range 3000 {
		barrels := between(r, 1, api.BrandBarrels)
		below, p := between(r, 0, barrels), anyPlan(r, barrels)
		if p.Open == 0 {
			p.Open = 1
		}
		want := new(big.Rat)
		if below > 0 {
			share := big.NewRat(int64(below), int64(barrels))
			want.Add(want, share.Mul(share, rest(t, barrels-1, below-1, p.Open-1, p.Allow-1)))
		}
		if below < barrels {
			share := big.NewRat(int64(barrels-below), int64(barrels))
			want.Add(want, share.Mul(share, rest(t, barrels-1, below, p.Open-1, p.Allow)))
		}
		if o := odds(t, barrels, below, p); o.Cmp(want) != 0 {
			t.Fatalf("%d barrels, %d of them below: %v passes with %v, not %v", barrels, below, p, o, want)
		}
	}
}

func TestNeverGreater(t *testing.T) { // P7.9
	less := 0
	for _, barrels := range []int{1, 2, 3, 5, 8, 13, 40} {
		for below := range barrels + 1 {
			for open := range barrels + 1 {
				for allow := 0; allow <= open; allow += 1 + barrels/6 {
					p := opens(open, allow)
					o := odds(t, barrels, below, p)
					if below < barrels {
						c := odds(t, barrels, below+1, p).Cmp(o)
						if c > 0 {
							t.Fatalf("%d barrels, %v: with %d below the odds are greater than %v", barrels, p, below+1, o)
						}
						less -= c
					}
					if allow > 0 && odds(t, barrels, below, opens(open, allow-1)).Cmp(o) > 0 {
						t.Fatalf("%d barrels, %d of them below: with %d of %d allowed the odds are greater than %v", barrels, below, allow-1, open, o)
					}
				}
			}
		}
	}
	if less < 1000 {
		t.Errorf("odds are less only %d times", less)
	}
}

func TestThePromise(t *testing.T) { // P7.10
	r := rand.New(rand.NewPCG(7, 10))
	few := 0
	for i := range 300 {
		barrels := between(r, 1, 12)
		if i%10 == 0 {
			barrels = between(r, 13, api.BrandBarrels)
		}
		a := anyRule(r, barrels)
		p := fewest(t, barrels, a)
		if 0 < p.Open && p.Open < barrels {
			few++
		}
		for below := range barrels + 1 {
			o := odds(t, barrels, below, p)
			if below <= a.Good && o.Cmp(rat(a.Pass)) < 0 || below >= a.Bad && o.Cmp(rat(a.Fail)) > 0 {
				t.Fatalf("%d barrels, %v: with %d below %v passes with %v", barrels, a, below, p, o)
			}
		}
		for open := range p.Open {
			for allow := range open + 1 {
				if odds(t, barrels, a.Good, opens(open, allow)).Cmp(rat(a.Pass)) >= 0 && odds(t, barrels, a.Bad, opens(open, allow)).Cmp(rat(a.Fail)) <= 0 {
					t.Fatalf("%d barrels, %v: %d and %d would do, not only %v", barrels, a, open, allow, p)
				}
			}
		}
	}
	if few < 100 {
		t.Errorf("only %d times some barrels, and not all, are opened", few)
	}
}

func TestTheDoubt(t *testing.T) { // P7.11
	r, k := rand.New(rand.NewPCG(7, 11)), teller{}
	in, out := 0, 0
	for range 2000 {
		barrels := between(r, 1, api.BrandBarrels)
		opened, doubt := between(r, 0, barrels), anyOdds(r, 0.1)
		found := between(r, 0, opened)
		s, e := brand.Below(barrels, opened, found, doubt)
		for below := range barrels + 1 {
			if e == api.OK && s.Low <= below && below <= s.High {
				in++
				continue
			}
			out++
			if k.atMost(barrels, below, opened, found).Cmp(rat(doubt)) > 0 && k.atLeast(barrels, below, opened, found).Cmp(rat(doubt)) > 0 {
				t.Fatalf("%d barrels, %d of %d found: not %d, %d, but %d are below with more than %v", barrels, found, opened, s, e, below, doubt)
			}
		}
	}
	if in < 2000 || out < 2000 {
		t.Errorf("only %d numbers are told, %d are not", in, out)
	}
}

func TestTheDoubtWhereAllAreOpened(t *testing.T) { // P7.11
	for barrels := 1; barrels <= api.BrandBarrels; barrels++ {
		for found := range barrels + 1 {
			for _, doubt := range []api.BrandOdds{of(0, 1), of(1, 10), of(1, 2), of(999, 1000)} {
				if s, e := brand.Below(barrels, barrels, found, doubt); s != to(found, found) || e != api.OK {
					t.Fatalf("%d barrels, %d of them found below: %v, %d", barrels, found, s, e)
				}
			}
		}
	}
}

// marked returns a copy of brands with another one behind them, often one that most barrels reach.
func marked(r *rand.Rand, m []api.BrandMark) []api.BrandMark {
	more := anyMarks(r)[0]
	if r.IntN(2) == 0 {
		for quality := range more {
			more[quality] = to(between(r, 0, 300), between(r, 700, api.BrandMost))
		}
	}
	return append(slices.Clone(m), more)
}

// improved returns a copy of barrels in which one that does not reach a brand gives its place to one that does, if there is one.
func improved(r *rand.Rand, m api.BrandMark, l []api.BrandBarrel) []api.BrandBarrel {
	l = slices.Clone(l)
	for _, i := range r.Perm(len(l)) {
		if !reaches(m, l[i]) {
			for quality, s := range m {
				l[i][quality] = between(r, s.Low, s.High)
			}
			return l
		}
	}
	return l
}

func TestTheBrand(t *testing.T) { // P7.12
	r := rand.New(rand.NewPCG(7, 12))
	promised, later, earlier := 0, 0, 0
	for range 3000 {
		barrels := between(r, 1, 14)
		m, a := anyMarks(r), anyRule(r, barrels)
		l := anyBarrels(r, m, between(r, barrels/2, barrels))
		which, allow, e := brand.Promise(m, barrels, a, l)
		if e == api.OK {
			promised++
			if n := belowOf(m[which], l); n > allow {
				t.Fatalf("%v, %d, %v, %v: the brand %d, but %d are below it, not %d", m, barrels, a, l, which, n, allow)
			}
		}
		if len(m) < api.BrandMarks {
			more := marked(r, m)
			w, _, f := brand.Promise(more, barrels, a, l)
			if e == api.OK && (f != api.OK || w != which) || e != api.OK && f == api.OK && w != len(m) {
				t.Fatalf("%v, %d, %v, %v: %d, %d; with a brand more behind: %d, %d", m, barrels, a, l, which, e, w, f)
			}
			if e != f {
				later++
			}
		}
		if e != api.OK {
			continue
		}
		better := improved(r, m[which], l)
		w, _, f := brand.Promise(m, barrels, a, better)
		if f != api.OK || w > which {
			t.Fatalf("%v, %d, %v: %v are promised %d, but %v are %d, %d", m, barrels, a, l, which, better, w, f)
		}
		if w < which {
			earlier++
		}
	}
	if promised < 500 || later < 50 || earlier < 5 {
		t.Errorf("only %d lots are promised a brand, %d one that is behind, %d an earlier one", promised, later, earlier)
	}
}
