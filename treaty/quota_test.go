package treaty_test

import (
	"math"
	"math/rand/v2"
	"slices"
	"testing"

	"drifter/api"
	"drifter/treaty"
)

func TestShares(t *testing.T) { // P10.1
	great := slices.Repeat([]int{100000}, 8)
	for i, x := range []struct {
		c    api.TreatyClaims
		want []int
	}{
		{claim(70, 10, 40, 60), []int{10, 30, 30}}, {claim(71, 10, 40, 60), []int{10, 31, 30}}, {claim(72, 10, 40, 60), []int{10, 31, 31}}, {claim(25, 10, 40, 60), []int{9, 8, 8}},
		{claim(0, 10, 40, 60), []int{0, 0, 0}}, {claim(1, 10, 40, 60), []int{1, 0, 0}}, {claim(2, 10, 40, 60), []int{1, 1, 0}}, {claim(3, 10, 40, 60), []int{1, 1, 1}},
		{claim(29, 10, 40, 60), []int{10, 10, 9}}, {claim(30, 10, 40, 60), []int{10, 10, 10}}, {claim(31, 10, 40, 60), []int{10, 11, 10}},
		{claim(89, 10, 40, 60), []int{10, 40, 39}}, {claim(90, 10, 40, 60), []int{10, 40, 40}}, {claim(91, 10, 40, 60), []int{10, 40, 41}}, {claim(109, 10, 40, 60), []int{10, 40, 59}}, {claim(110, 10, 40, 60), []int{10, 40, 60}},
		// what is left goes to the first nations whose right is above the level, not to the greatest right
		{claim(71, 60, 40, 10), []int{31, 30, 10}}, {claim(71, 40, 10, 60), []int{31, 10, 30}}, {claim(31, 10, 10, 60), []int{10, 10, 11}}, {claim(25, 60, 40, 10), []int{9, 8, 8}},
		{claim(11, 2, 5, 2, 5, 2), []int{2, 3, 2, 2, 2}}, {claim(12, 2, 5, 2, 5, 2), []int{2, 3, 2, 3, 2}},
		// a right that is the level itself gets no more of what is left
		{claim(10, 3, 3, 4, 9), []int{3, 3, 2, 2}}, {claim(13, 3, 3, 4, 9), []int{3, 3, 4, 3}},
		// nations without a right, and only such
		{claim(5, 0, 3, 9), []int{0, 3, 2}}, {claim(0, 0), []int{0}}, {claim(0, 0, 0, 0), []int{0, 0, 0}}, {claim(1, 0, 0, 1, 0), []int{0, 0, 1, 0}},
		{claim(7, 7), []int{7}}, {claim(6, 7), []int{6}},
		// as much as can be
		{claim(100000, 100000), []int{100000}}, {claim(99999, 100000), []int{99999}}, {claim(199999, 100000, 100000), []int{100000, 99999}}, {claim(199999, 99999, 100000), []int{99999, 100000}}, {claim(199998, 99999, 100000), []int{99999, 99999}},
		{claim(800000, great...), great}, {claim(799999, great...), []int{100000, 100000, 100000, 100000, 100000, 100000, 100000, 99999}}, {claim(799993, great...), []int{100000, 99999, 99999, 99999, 99999, 99999, 99999, 99999}}, {claim(9, great...), []int{2, 1, 1, 1, 1, 1, 1, 1}},
	} {
		l, e := treaty.Shares(x.c)
		if f := treaty.CheckClaims(x.c); !slices.Equal(l, x.want) || e != api.OK || f != api.OK {
			t.Errorf("Shares %d of %v: %v, %d, %d, not %v", i, x.c, l, e, f, x.want)
		}
	}
}

func TestWrongClaims(t *testing.T) { // P10.1, R2
	for i, c := range []api.TreatyClaims{
		{}, claim(0), claim(1), {Rights: []int{}}, {Quota: 5},
		claim(0, make([]int, 9)...), claim(9, slices.Repeat([]int{1}, 9)...), claim(100, slices.Repeat([]int{1}, 100)...),
		claim(-1, 10, 40, 60), claim(111, 10, 40, 60), claim(math.MinInt, 10, 40, 60), claim(math.MaxInt, 10, 40, 60), claim(1<<32, 10, 40, 60), claim(-1<<32, 10, 40, 60),
		claim(1, 0), claim(-1, 0), claim(1, 0, 0), claim(100001, 100000), claim(800001, slices.Repeat([]int{100000}, 8)...),
		claim(0, 100001), claim(5, 100001), claim(100001, 100001), claim(0, -1), claim(-1, -1), claim(4, -1, 5), claim(4, 5, -1), claim(5, 5, 5, 100001), claim(5, 100001, 5, 5),
		claim(0, math.MaxInt), claim(0, math.MinInt), claim(3, 2, math.MaxInt), claim(0, math.MinInt, math.MaxInt, 1), claim(0, math.MaxInt, math.MaxInt, 2), claim(math.MaxInt, math.MaxInt), claim(math.MinInt, math.MinInt), claim(0, 1<<32), claim(0, -1<<32),
	} {
		l, e := treaty.Shares(c)
		if f := treaty.CheckClaims(c); l != nil || e != api.ErrTreatyClaims || f != api.ErrTreatyClaims {
			t.Errorf("Shares of the wrong claims %d: %v, %d, %d", i, l, e, f)
		}
	}
}

func TestSharesOneByOne(t *testing.T) { // P10.1
	r := rand.New(rand.NewPCG(10, 1))
	uneven := 0
	for range 5000 {
		c := anyClaims(r, []int{1, 3, 10, 200}[r.IntN(4)])
		l, e := treaty.Shares(c)
		if want := oneByOne(c); !slices.Equal(l, want) || e != api.OK {
			t.Fatalf("Shares of %v: %v, %d, not %v", c, l, e, want)
		}
		if slices.Max(l)-slices.Min(l) > 1 {
			uneven++
		}
	}
	if uneven < 1000 {
		t.Errorf("only %d shares are uneven", uneven)
	}
}
