package stock_test

import (
	"math"
	"math/rand/v2"
	"slices"
	"testing"

	"drifter/api"
	"drifter/stock"
)

// fishery is that of the document.
func fishery() api.StockFishery {
	return api.StockFishery{Races: []api.StockRace{autumn(), spring()}, Most: []int{40, 80}, Seasons: [][][]int{{{90, 80}, {10, 10}}, {{0, 0}, {0, 0}}}}
}

// alone is a fishery of the race a, with its Most.
func alone(most int) api.StockFishery {
	return api.StockFishery{Races: []api.StockRace{autumn()}, Most: []int{most}, Seasons: [][][]int{{{90, 80}}, {{0, 0}}}}
}

// lined is a fishery of the race a with another line.
func lined(line int) api.StockFishery {
	f := alone(100)
	f.Races[0].Line = line
	return f
}

// plain is a fishery of races of one age of which all live on, and none come; each has a number, a line and its Most.
func plain(years int, races ...[3]int) api.StockFishery {
	f := api.StockFishery{Seasons: [][][]int{nil}}
	for _, x := range races {
		r := single(x[0], 1000, 1)
		r.Line = x[1]
		f.Races, f.Most = append(f.Races, r), append(f.Most, x[2])
		f.Seasons[0] = append(f.Seasons[0], make([]int, years))
	}
	return f
}

func TestQuota(t *testing.T) { // P9.4
	for i, x := range []struct {
		f    api.StockFishery
		want int
		e    api.Errno
	}{
		{fishery(), 7, api.OK}, {alone(100), 15, api.OK}, {alone(40), 37, api.OK}, {alone(0), 10000, api.OK}, {alone(1), 1500, api.OK},
		{lined(0), 10000, api.OK}, {lined(1), 69, api.OK}, {lined(90), 0, api.OK}, {lined(91), 0, api.ErrNone}, {lined(100000000), 0, api.ErrNone},
		{lined(89), 0, api.OK}, {lined(88), 1, api.OK},
		// a take is rounded up
		{plain(1, [3]int{100, 90, 100}), 10, api.OK}, {plain(1, [3]int{100, 90, 99}), 10, api.OK}, {plain(1, [3]int{100, 90, 91}), 10, api.OK}, {plain(1, [3]int{100, 90, 90}), 11, api.OK},
		{plain(1, [3]int{100, 99, 1}), 100, api.OK}, {plain(1, [3]int{100, 100, 1}), 0, api.OK}, {plain(1, [3]int{100, 99, 3}), 33, api.OK}, {plain(1, [3]int{100, 99, 50}), 2, api.OK}, {plain(1, [3]int{100, 99, 51}), 1, api.OK},
		// the least quota of all races is that of the fishery
		{plain(1, [3]int{100, 90, 100}, [3]int{100, 95, 100}), 5, api.OK}, {plain(1, [3]int{100, 90, 100}, [3]int{100, 95, 10}), 10, api.OK}, {plain(1, [3]int{100, 90, 100}, [3]int{100, 95, 10}, [3]int{50, 48, 100}), 2, api.OK},
		{plain(1, [3]int{100, 90, 100}, [3]int{100, 101, 0}), 0, api.ErrNone}, {plain(1, [3]int{100, 101, 0}, [3]int{100, 90, 100}), 0, api.ErrNone}, {plain(1, [3]int{100, 100, 0}, [3]int{100, 0, 100}), 10000, api.OK},
		// every year the take is caught once more
		{plain(2, [3]int{100, 90, 100}), 5, api.OK}, {plain(10, [3]int{100, 90, 100}), 1, api.OK}, {plain(10, [3]int{100, 91, 100}), 0, api.OK},
		// the greatest quota of all
		{plain(1, [3]int{20000, 10000, 100}), 10000, api.OK}, {plain(1, [3]int{20000, 10001, 100}), 9999, api.OK}, {plain(1, [3]int{20000, 9999, 100}), 10000, api.OK},
		{plain(10, [3]int{100000, 0, 100}), 10000, api.OK}, {plain(10, [3]int{100000, 1, 100}), 9999, api.OK},
		{api.StockFishery{}, 0, api.ErrStockFishery},
	} {
		if n, e := stock.Quota(x.f); n != x.want || e != x.e {
			t.Errorf("Quota %d: %d, %d, not %d, %d", i, n, e, x.want, x.e)
		}
	}
}

func TestFirst(t *testing.T) { // P9.5, R1, R2
	even := plain(3, [3]int{10, 10, 100}, [3]int{10, 10, 100})
	even.Seasons = [][][]int{even.Seasons[0], even.Seasons[0]}
	// the race 0 breaks in the year 1, the race 1 in the year 0
	late := plain(3, [3]int{10, 9, 100}, [3]int{10, 10, 100})
	// in the season 0 the race 1 breaks later than in the others
	dry := plain(3, [3]int{10, 0, 100}, [3]int{10, 8, 100})
	dry.Seasons = [][][]int{{{0, 0, 0}, {2, 0, 0}}, {{0, 0, 0}, {0, 0, 0}}, {{0, 0, 0}, {0, 0, 0}}}
	for i, x := range []struct {
		f     api.StockFishery
		quota int
		want  breach
		e     api.Errno
	}{
		{fishery(), 8, breach{1, 1, 1}, api.OK}, {fishery(), 7, breach{}, api.ErrNone}, {fishery(), 0, breach{}, api.ErrNone}, {fishery(), 100, breach{0, 0, 0}, api.OK}, {fishery(), 10000, breach{0, 0, 0}, api.OK},
		{fishery(), 37, breach{1, 0, 1}, api.OK}, {fishery(), 38, breach{0, 0, 0}, api.OK},
		{alone(100), 16, breach{0, 0, 0}, api.OK}, {alone(100), 15, breach{}, api.ErrNone}, {lined(91), 0, breach{0, 0, 0}, api.OK}, {lined(0), 10000, breach{}, api.ErrNone},
		{even, 0, breach{}, api.ErrNone}, {even, 1, breach{0, 0, 0}, api.OK}, {late, 1, breach{1, 0, 0}, api.OK}, {late, 2, breach{0, 0, 0}, api.OK},
		{dry, 1, breach{1, 1, 2}, api.OK}, {dry, 2, breach{1, 1, 1}, api.OK}, {dry, 3, breach{1, 0, 0}, api.OK}, {dry, 0, breach{}, api.ErrNone},
		{plain(10, [3]int{10, 1, 100}), 1, breach{0, 0, 9}, api.OK},
		{fishery(), 10001, breach{}, api.ErrRange}, {fishery(), -1, breach{}, api.ErrRange}, {lined(91), -1, breach{}, api.ErrRange}, {fishery(), math.MinInt, breach{}, api.ErrRange}, {fishery(), math.MaxInt, breach{}, api.ErrRange},
		{api.StockFishery{}, -1, breach{}, api.ErrStockFishery}, {api.StockFishery{}, 0, breach{}, api.ErrStockFishery},
	} {
		if race, season, year, e := stock.First(x.f, x.quota); (breach{race, season, year}) != x.want || e != x.e {
			t.Errorf("First %d: %d, %d, %d, %d, not %v, %d", i, race, season, year, e, x.want, x.e)
		}
	}
}

func TestWrongFisheries(t *testing.T) { // P9.4, P9.5, R1, R2, R3
	many := func(races int) (f api.StockFishery) {
		for range races {
			f.Races, f.Most = append(f.Races, autumn()), append(f.Most, 100)
		}
		f.Seasons = [][][]int{slices.Repeat([][]int{{0}}, races)}
		return f
	}
	for i, change := range []func(f *api.StockFishery){
		func(f *api.StockFishery) { *f = api.StockFishery{} }, func(f *api.StockFishery) { *f = many(0) }, func(f *api.StockFishery) { *f = many(4) },
		func(f *api.StockFishery) { f.Races = nil }, func(f *api.StockFishery) { f.Races = f.Races[:1] }, func(f *api.StockFishery) { f.Races = append(f.Races, spring()) },
		func(f *api.StockFishery) { f.Most = nil }, func(f *api.StockFishery) { f.Most = []int{40} }, func(f *api.StockFishery) { f.Most = []int{40, 80, 0} },
		func(f *api.StockFishery) { f.Most[1] = 101 }, func(f *api.StockFishery) { f.Most[0] = -1 }, func(f *api.StockFishery) { f.Most[0] = math.MinInt }, func(f *api.StockFishery) { f.Most[1] = math.MaxInt },
		func(f *api.StockFishery) { f.Seasons = nil }, func(f *api.StockFishery) { f.Seasons = [][][]int{} }, func(f *api.StockFishery) { f.Seasons = make([][][]int, 7) }, func(f *api.StockFishery) { f.Seasons = slices.Repeat(f.Seasons[:1], 7) },
		func(f *api.StockFishery) { f.Seasons[0] = nil }, func(f *api.StockFishery) { f.Seasons[1] = nil }, func(f *api.StockFishery) { f.Seasons[1] = [][]int{{0, 0}} }, func(f *api.StockFishery) { f.Seasons[0] = [][]int{{0, 0}, {0, 0}, {0, 0}} },
		func(f *api.StockFishery) { f.Seasons[0][0] = []int{0} }, func(f *api.StockFishery) { f.Seasons[0][1] = []int{0} }, func(f *api.StockFishery) { f.Seasons[1][1] = []int{0, 0, 0} }, func(f *api.StockFishery) { f.Seasons[1] = [][]int{{0}, {0}} },
		func(f *api.StockFishery) { f.Seasons = [][][]int{{nil, nil}} }, func(f *api.StockFishery) { f.Seasons = [][][]int{{make([]int, 11), make([]int, 11)}} }, func(f *api.StockFishery) { f.Seasons[1][0] = nil },
		func(f *api.StockFishery) { f.Seasons[1][0][0] = -1 }, func(f *api.StockFishery) { f.Seasons[0][1][1] = 100001 }, func(f *api.StockFishery) { f.Seasons[0][0][1] = math.MaxInt }, func(f *api.StockFishery) { f.Seasons[1][1][1] = math.MinInt },
	} {
		f := fishery()
		change(&f)
		n, g := stock.Quota(f)
		if e := stock.Check(f); e != api.ErrStockFishery || n != 0 || g != api.ErrStockFishery {
			t.Errorf("the wrong fishery %d: %d, %d, %d", i, e, n, g)
		}
		for _, quota := range []int{-1, 0, 10001} {
			if race, season, year, e := stock.First(f, quota); (breach{race, season, year}) != (breach{}) || e != api.ErrStockFishery {
				t.Errorf("First of the wrong fishery %d, %d: %d, %d, %d, %d", i, quota, race, season, year, e)
			}
		}
	}
	for i, f := range []api.StockFishery{fishery(), alone(0), alone(100), many(1), many(3), {Races: many(3).Races, Most: []int{0, 100, 0}, Seasons: slices.Repeat([][][]int{slices.Repeat([][]int{slices.Repeat([]int{100000}, 10)}, 3)}, 6)}} {
		if e := stock.Check(f); e != api.OK {
			t.Errorf("the fishery %d: %d", i, e)
		}
	}
}

func TestAnyQuotas(t *testing.T) { // P9.4
	r := rand.New(rand.NewPCG(9, 4))
	some, never, all := 0, 0, 0
	for range 1500 {
		f := anyFishery(r, []int{5, 40, 150}[r.IntN(3)])
		want, wants := quotaOf(f), api.OK
		switch want {
		case -1:
			want, wants = 0, api.ErrNone
			never++
		case 10000:
			all++
		case 0:
		default:
			some++
		}
		if n, e := stock.Quota(f); n != want || e != wants {
			t.Fatalf("Quota of %v: %d, %d, not %d, %d", f, n, e, want, wants)
		}
	}
	if some < 500 || never < 30 || all < 30 {
		t.Errorf("only %d quotas hold, %d of 10000, %d races break without any", some, all, never)
	}
}

func TestAnyFirst(t *testing.T) { // P9.5
	r := rand.New(rand.NewPCG(9, 5))
	late, second, good := 0, 0, 0
	for range 4000 {
		f := anyFishery(r, []int{5, 40, 150}[r.IntN(3)])
		n, _ := stock.Quota(f)
		quota := min(10000, max(0, n+between(r, -2, 6)))
		if r.IntN(4) == 0 {
			quota = between(r, 0, 300)
		}
		race, season, year, e := stock.First(f, quota)
		l := broken(f, quota)
		if len(l) == 0 {
			good++
			if e != api.ErrNone || (breach{race, season, year}) != (breach{}) {
				t.Fatalf("First of %v, %d: %d, %d, %d, %d, not ErrNone", f, quota, race, season, year, e)
			}
			continue
		}
		if (breach{race, season, year}) != l[0] || e != api.OK {
			t.Fatalf("First of %v, %d: %d, %d, %d, %d, not %v", f, quota, race, season, year, e, l[0])
		}
		if year > 0 && len(l) > 1 {
			late++
		}
		if race > 0 && season > 0 {
			second++
		}
	}
	if late < 500 || second < 100 || good < 500 {
		t.Errorf("only %d races break late, %d are not the first ones of the first season, %d fisheries hold", late, second, good)
	}
}
