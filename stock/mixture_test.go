package stock_test

import (
	"math"
	"math/rand/v2"
	"slices"
	"testing"

	"drifter/api"
	"drifter/stock"
)

// signs are the races and what is seen of the document.
func signs() (races [][]api.Span, seen []api.Span) {
	return [][]api.Span{{to(60, 70), to(30, 40)}, {to(20, 30), to(70, 80)}}, []api.Span{to(45, 50), to(50, 55)}
}

// each are three races, of which each one alone has a sign.
func each() [][]api.Span {
	return [][]api.Span{{to(100, 100), to(0, 0), to(0, 0)}, {to(0, 0), to(100, 100), to(0, 0)}, {to(0, 0), to(0, 0), to(100, 100)}}
}

func TestShares(t *testing.T) { // P9.2
	two, seen := signs()
	one := [][]api.Span{{to(30, 40)}}
	half := [][]api.Span{{to(0, 0)}, {to(1, 1)}}
	alike := [][]api.Span{{to(50, 60)}, {to(50, 60)}, {to(50, 60)}}
	for i, x := range []struct {
		races [][]api.Span
		seen  []api.Span
		want  []api.Span
	}{
		{two, seen, []api.Span{to(38, 75), to(25, 62)}},
		{two, []api.Span{to(0, 100), to(0, 100)}, []api.Span{to(0, 100), to(0, 100)}},
		{two, []api.Span{to(60, 60), to(30, 40)}, []api.Span{to(75, 100), to(0, 25)}},
		{two, []api.Span{to(70, 100), to(0, 100)}, []api.Span{to(100, 100), to(0, 0)}},
		{two, []api.Span{to(0, 20), to(0, 100)}, []api.Span{to(0, 0), to(100, 100)}},
		// one race: what is seen must only touch its signs
		{one, []api.Span{to(30, 40)}, []api.Span{to(100, 100)}}, {one, []api.Span{to(40, 90)}, []api.Span{to(100, 100)}}, {one, []api.Span{to(0, 30)}, []api.Span{to(100, 100)}},
		{one, []api.Span{to(33, 34)}, []api.Span{to(100, 100)}}, {one, []api.Span{to(0, 100)}, []api.Span{to(100, 100)}},
		// shares of a mixture are not rounded
		{half, []api.Span{to(0, 0)}, []api.Span{to(100, 100), to(0, 0)}}, {half, []api.Span{to(1, 1)}, []api.Span{to(0, 0), to(100, 100)}}, {half, []api.Span{to(0, 1)}, []api.Span{to(0, 100), to(0, 100)}},
		{[][]api.Span{{to(0, 0)}, {to(99, 99)}}, []api.Span{to(50, 50)}, nil}, // 51 of the second one are 50.49, 50 of it 49.5
		{[][]api.Span{{to(0, 0)}, {to(99, 99)}}, []api.Span{to(50, 51)}, []api.Span{to(49, 49), to(51, 51)}},
		// three races
		{alike, []api.Span{to(55, 56)}, []api.Span{to(0, 100), to(0, 100), to(0, 100)}},
		{each(), []api.Span{to(20, 30), to(40, 45), to(0, 100)}, []api.Span{to(20, 30), to(40, 45), to(25, 40)}},
		{each(), []api.Span{to(20, 30), to(40, 45), to(36, 100)}, []api.Span{to(20, 24), to(40, 44), to(36, 40)}},
		{each(), []api.Span{to(60, 70), to(40, 45), to(0, 100)}, []api.Span{to(60, 60), to(40, 40), to(0, 0)}},
		{each(), []api.Span{to(33, 33), to(33, 33), to(34, 34)}, []api.Span{to(33, 33), to(33, 33), to(34, 34)}},
		// each sign alone could be so, but not all of them together
		{each(), []api.Span{to(33, 33), to(33, 33), to(33, 33)}, nil},
		{each(), []api.Span{to(60, 70), to(41, 45), to(0, 100)}, nil},
		{two, []api.Span{to(10, 15), to(85, 90)}, nil}, {two, []api.Span{to(10, 19), to(0, 100)}, nil}, {two, []api.Span{to(0, 100), to(81, 100)}, nil}, {two, []api.Span{to(71, 80), to(0, 100)}, nil},
		{one, []api.Span{to(41, 90)}, nil}, {one, []api.Span{to(0, 29)}, nil},
	} {
		l, e := stock.Shares(x.races, x.seen)
		if x.want == nil && (l != nil || e != api.ErrNone) || x.want != nil && (!slices.Equal(l, x.want) || e != api.OK) {
			t.Errorf("Shares %d: %v, %d, not %v", i, l, e, x.want)
		}
	}
}

func TestWrongSigns(t *testing.T) { // P9.2, R2
	two, seen := signs()
	six := slices.Repeat([]api.Span{to(0, 100)}, 6)
	if l, e := stock.Shares([][]api.Span{six, six, six}, six); !slices.Equal(l, slices.Repeat([]api.Span{to(0, 100)}, 3)) || e != api.OK {
		t.Errorf("as many signs as can be: %v, %d", l, e)
	}
	seven := append(six, to(0, 100))
	for i, x := range []struct {
		races [][]api.Span
		seen  []api.Span
	}{
		{nil, seen}, {[][]api.Span{}, seen}, {nil, nil}, {[][]api.Span{six, six, six, six}, six},
		{two, nil}, {two, []api.Span{}}, {[][]api.Span{nil}, nil}, {[][]api.Span{{}}, []api.Span{}},
		{two, seen[:1]}, {two, append(seen, to(0, 0))}, {[][]api.Span{two[0], two[1][:1]}, seen}, {[][]api.Span{two[0][:1], two[1]}, seen}, {[][]api.Span{two[0], nil}, seen},
		{[][]api.Span{two[0], append(two[1], to(0, 0))}, seen}, {[][]api.Span{seven}, seven}, {[][]api.Span{seven}, six},
		{[][]api.Span{{to(5, 4), to(0, 0)}}, seen}, {[][]api.Span{two[0], {to(0, 0), to(101, 101)}}, seen}, {[][]api.Span{two[0], {to(0, 0), to(-1, 0)}}, seen}, {[][]api.Span{two[0], {to(0, 101), to(0, 0)}}, seen},
		{two, []api.Span{to(0, 101), to(0, 0)}}, {two, []api.Span{to(0, 0), to(-1, 100)}}, {two, []api.Span{to(51, 50), to(50, 55)}}, {two, []api.Span{to(45, 50), to(-5, -1)}},
		{two, []api.Span{to(math.MinInt, math.MaxInt), to(0, 0)}}, {two, []api.Span{to(math.MaxInt, math.MinInt), to(0, 0)}}, {two, []api.Span{to(0, math.MaxInt), to(0, 0)}}, {two, []api.Span{to(math.MinInt, 0), to(0, 0)}},
		{[][]api.Span{two[0], {to(math.MinInt, math.MaxInt), to(0, 0)}}, seen}, {[][]api.Span{two[0], {to(math.MaxInt, math.MaxInt), to(0, 0)}}, seen},
	} {
		if l, e := stock.Shares(x.races, x.seen); l != nil || e != api.ErrStockSign {
			t.Errorf("Shares of the wrong signs %d: %v, %d", i, l, e)
		}
	}
}

// anySigns returns races that are most often told apart by their signs, and what is seen of some mixing.
func anySigns(r *rand.Rand) (races [][]api.Span, seen []api.Span) {
	many := between(r, 1, 6)
	mixing := []int{between(r, 0, 100), 0, 0}
	mixing[1] = between(r, 0, 100-mixing[0])
	mixing[2] = 100 - mixing[0] - mixing[1]
	mixed := make([]int, many)
	n := between(r, 1, 3)
	for race := range n {
		var l []api.Span
		for sign := range many {
			low := between(r, 0, 100)
			l = append(l, to(low, min(100, low+r.IntN(15))))
			share := mixing[race]
			if race == n-1 {
				share = 100
				for _, before := range mixing[:race] {
					share -= before
				}
			}
			mixed[sign] += low * share
		}
		races = append(races, l)
	}
	for _, m := range mixed {
		low := max(0, m/100-r.IntN(12))
		seen = append(seen, to(low, min(100, max(low, m/100+between(r, -2, 12)))))
	}
	return races, seen
}

func TestAllMixings(t *testing.T) { // P9.2
	r := rand.New(rand.NewPCG(9, 2))
	narrow, never := 0, 0
	for range 300 {
		races, seen := anySigns(r)
		all := mixings(races, seen)
		l, e := stock.Shares(races, seen)
		if len(all) == 0 {
			never++
			if l != nil || e != api.ErrNone {
				t.Fatalf("Shares of %v, %v: %v, %d, not ErrNone", races, seen, l, e)
			}
			continue
		}
		if want := hull(all); !slices.Equal(l, want) || e != api.OK {
			t.Fatalf("Shares of %v, %v: %v, %d, not %v", races, seen, l, e, want)
		}
		if len(races) > 1 && l[0] != to(0, 100) && l[0].Low < l[0].High {
			narrow++
		}
	}
	if narrow < 100 || never < 10 {
		t.Errorf("only %d shares are narrowed, %d mixtures cannot be", narrow, never)
	}
}
