package stock_test

import (
	"math"
	"math/rand/v2"
	"slices"
	"testing"

	"drifter/api"
	"drifter/stock"
)

// autumn and spring are the races a and b of the document.
func autumn() api.StockRace {
	return api.StockRace{Numbers: []int{100, 50, 20}, Keep: []int{800, 700, 500}, Spawn: []int{0, 1, 2}, Line: 60, Mesh: 1}
}

func spring() api.StockRace {
	return api.StockRace{Numbers: []int{60, 60}, Keep: []int{500, 500}, Spawn: []int{1, 1}, Line: 50}
}

// single is a race of one age.
func single(number, keep, spawn int) api.StockRace {
	return api.StockRace{Numbers: []int{number}, Keep: []int{keep}, Spawn: []int{spawn}}
}

func TestPlay(t *testing.T) { // P9.3
	open, last := autumn(), autumn()
	open.Mesh, last.Mesh = 0, 2
	six := api.StockRace{Numbers: []int{1, 2, 3, 4, 5, 6}, Keep: slices.Repeat([]int{1000}, 6), Spawn: []int{100, 10, 1, 1, 10, 100}}
	great := api.StockRace{Numbers: slices.Repeat([]int{100000}, 6), Keep: slices.Repeat([]int{1000}, 6), Spawn: slices.Repeat([]int{100}, 6), Line: 100000000, Mesh: 5}
	for i, x := range []struct {
		r                     api.StockRace
		takes, recruits, want []int
	}{
		{autumn(), []int{30, 30}, []int{90, 80}, []int{40, 78}},
		{autumn(), []int{0, 0}, []int{90, 80}, []int{90, 170}},
		{autumn(), []int{0, 0, 0}, []int{0, 0, 0}, []int{90, 170, 156}},
		{autumn(), []int{0, 0, 0}, []int{100, 0, 0}, []int{90, 170, 236}}, // the recruits spawn when they are of the second age
		// what is caught is of the last age first; of the first age none are
		{autumn(), []int{19}, []int{0}, []int{52}}, {autumn(), []int{20}, []int{0}, []int{50}}, {autumn(), []int{21}, []int{0}, []int{49}},
		{autumn(), []int{70}, []int{0}, []int{0}}, {autumn(), []int{69}, []int{0}, []int{1}},
		{autumn(), []int{1000, 0}, []int{5, 5}, []int{0, 80}}, {autumn(), []int{100000000, 0}, []int{5, 5}, []int{0, 80}},
		{open, []int{100, 0}, []int{5, 5}, []int{0, 56}}, {open, []int{170, 0, 0}, []int{5, 5, 5}, []int{0, 0, 4}}, {open, []int{71, 0}, []int{0, 0}, []int{0, 79}},
		{last, []int{1000, 0}, []int{0, 0}, []int{50, 150}}, {last, []int{10, 0}, []int{0, 0}, []int{70, 160}},
		{spring(), []int{7, 7}, []int{0, 0}, []int{113, 49}}, {spring(), []int{100}, []int{0}, []int{20}},
		// what lives on is rounded down, age by age: 29 and 30
		{api.StockRace{Numbers: []int{59, 61}, Keep: []int{500, 500}, Spawn: []int{0, 1}}, []int{0, 0}, []int{0, 0}, []int{61, 59}},
		{single(9, 500, 1), []int{0, 0, 0}, []int{3, 3, 3}, []int{9, 7, 6}}, {single(9, 500, 1), []int{9, 9, 1}, []int{3, 3, 3}, []int{0, 0, 2}},
		{single(9, 0, 1), []int{0, 0}, []int{0, 0}, []int{9, 0}}, {single(9, 1000, 1), []int{0, 0}, []int{0, 0}, []int{9, 9}}, {single(9, 999, 1), []int{0, 0, 0}, []int{0, 0, 0}, []int{9, 8, 7}},
		{single(9, 1000, 0), []int{0, 0}, []int{1, 1}, []int{0, 0}}, {single(0, 0, 1), []int{0, 0, 0}, []int{1, 2, 4}, []int{0, 1, 2}},
		// a year that begins as the one before, with another take, and with the same one
		{single(9, 1000, 1), []int{0, 3, 0}, []int{0, 3, 0}, []int{9, 6, 9}}, {single(9, 1000, 1), []int{3, 3, 3, 2}, []int{3, 3, 3, 3}, []int{6, 6, 6, 7}},
		{single(9, 1000, 1), []int{3, 3, 3}, []int{3, 0, 0}, []int{6, 6, 3}}, {single(8, 500, 1), []int{4, 4, 4}, []int{6, 6, 5}, []int{4, 4, 4}},
		{six, []int{0, 0}, []int{1, 0}, []int{777, 100 + 10 + 2 + 3 + 40 + 1100}}, {six, []int{15}, []int{0}, []int{100 + 20 + 3}},
		{great, slices.Repeat([]int{0}, 10), slices.Repeat([]int{100000}, 10), []int{60000000, 70000000, 80000000, 90000000, 100000000, 110000000, 120000000, 130000000, 140000000, 150000000}},
	} {
		if l, e := stock.Play(x.r, x.takes, x.recruits); !slices.Equal(l, x.want) || e != api.OK {
			t.Errorf("Play %d: %v, %d, not %v", i, l, e, x.want)
		}
	}
}

// wrongRaces are such as are not valid.
func wrongRaces() []api.StockRace {
	var l []api.StockRace
	for _, change := range []func(r *api.StockRace){
		func(r *api.StockRace) { *r = api.StockRace{} },
		func(r *api.StockRace) { r.Numbers = nil },
		func(r *api.StockRace) { r.Numbers = r.Numbers[:2] },
		func(r *api.StockRace) { r.Keep = r.Keep[:2] },
		func(r *api.StockRace) { r.Spawn = r.Spawn[:2] },
		func(r *api.StockRace) { r.Keep = append(r.Keep, 0) },
		func(r *api.StockRace) { r.Spawn = append(r.Spawn, 0) },
		func(r *api.StockRace) { r.Numbers = append(r.Numbers, 0) },
		func(r *api.StockRace) { r.Numbers, r.Keep, r.Spawn = make([]int, 7), make([]int, 7), make([]int, 7) },
		func(r *api.StockRace) { r.Numbers[0] = 100001 },
		func(r *api.StockRace) { r.Numbers[2] = -1 },
		func(r *api.StockRace) { r.Numbers[1] = math.MaxInt },
		func(r *api.StockRace) { r.Numbers[1] = math.MinInt },
		func(r *api.StockRace) { r.Keep[2] = 1001 },
		func(r *api.StockRace) { r.Keep[0] = -1 },
		func(r *api.StockRace) { r.Keep[0] = math.MaxInt },
		func(r *api.StockRace) { r.Keep[2] = math.MinInt },
		func(r *api.StockRace) { r.Spawn[1] = 101 },
		func(r *api.StockRace) { r.Spawn[1] = -1 },
		func(r *api.StockRace) { r.Spawn[2] = math.MaxInt },
		func(r *api.StockRace) { r.Spawn[2] = math.MinInt },
		func(r *api.StockRace) { r.Line = 100000001 },
		func(r *api.StockRace) { r.Line = -1 },
		func(r *api.StockRace) { r.Line = math.MaxInt },
		func(r *api.StockRace) { r.Line = math.MinInt },
		func(r *api.StockRace) { r.Mesh = 3 },
		func(r *api.StockRace) { r.Mesh = -1 },
		func(r *api.StockRace) { r.Mesh = math.MaxInt },
		func(r *api.StockRace) { r.Mesh = math.MinInt },
	} {
		r := autumn()
		change(&r)
		l = append(l, r)
	}
	return l
}

func TestWrongRaces(t *testing.T) { // P9.3, P9.4
	for i, r := range wrongRaces() {
		if l, e := stock.Play(r, []int{0}, []int{0}); l != nil || e != api.ErrStockRace {
			t.Errorf("Play of the wrong race %d: %v, %d", i, l, e)
		}
		for race := range 2 {
			f := fishery()
			f.Races[race] = r
			if e := stock.Check(f); e != api.ErrStockFishery {
				t.Errorf("Check of the wrong race %d as the race %d: %d", i, race, e)
			}
		}
	}
	for i, change := range []func(r *api.StockRace){
		func(r *api.StockRace) { r.Numbers = []int{100000, 0, 100000} },
		func(r *api.StockRace) { r.Keep = []int{1000, 0, 1000} },
		func(r *api.StockRace) { r.Spawn = []int{100, 0, 100} },
		func(r *api.StockRace) { r.Line = 100000000 },
		func(r *api.StockRace) { r.Line = 0 },
		func(r *api.StockRace) { r.Mesh = 2 },
		func(r *api.StockRace) { r.Mesh = 0 },
		func(r *api.StockRace) { *r = single(0, 0, 0) },
		func(r *api.StockRace) {
			r.Numbers, r.Keep, r.Spawn, r.Mesh = make([]int, 6), make([]int, 6), make([]int, 6), 5
		},
	} {
		f := fishery()
		change(&f.Races[0])
		if _, e := stock.Play(f.Races[0], []int{0}, []int{0}); e != api.OK || stock.Check(f) != api.OK {
			t.Errorf("Play of the race %d: %d, %d", i, e, stock.Check(f))
		}
	}
}

func TestWrongYears(t *testing.T) { // P9.3, R3
	for i, x := range []struct{ takes, recruits []int }{
		{nil, nil}, {[]int{}, []int{}}, {nil, []int{0}}, {[]int{0}, nil}, {make([]int, 11), make([]int, 11)}, {make([]int, 10), make([]int, 11)}, {make([]int, 11), make([]int, 10)},
		{[]int{0}, []int{0, 0}}, {[]int{0, 0}, []int{0}},
		{[]int{-1}, []int{0}}, {[]int{0, -1}, []int{0, 0}}, {[]int{100000001}, []int{0}}, {[]int{math.MaxInt}, []int{0}}, {[]int{math.MinInt}, []int{0}},
		{[]int{0}, []int{-1}}, {[]int{0, 0}, []int{0, -1}}, {[]int{0}, []int{100001}}, {[]int{0}, []int{math.MaxInt}}, {[]int{0}, []int{math.MinInt}},
	} {
		if l, e := stock.Play(autumn(), x.takes, x.recruits); l != nil || e != api.ErrStockRace {
			t.Errorf("Play of the wrong years %d: %v, %d", i, l, e)
		}
	}
	for _, years := range []int{1, 10} {
		takes, recruits := slices.Repeat([]int{100000000}, years), slices.Repeat([]int{100000}, years)
		if l, e := stock.Play(autumn(), takes, recruits); len(l) != years || e != api.OK {
			t.Errorf("Play of %d years: %v, %d", years, l, e)
		}
	}
}

// What is caught is caught one by one.
func TestAnyYears(t *testing.T) { // P9.3
	r := rand.New(rand.NewPCG(9, 3))
	some := 0
	for range 20000 {
		most := []int{3, 60, 400}[r.IntN(3)]
		x, years := anyRace(r, between(r, 1, 6), most), between(r, 1, 10)
		takes, recruits := numbers(r, years, 0, between(r, 0, most)), numbers(r, years, 0, between(r, 0, most))
		if r.IntN(2) == 0 { // years that go like others
			takes, recruits = slices.Repeat(takes[:1], years), slices.Repeat(recruits[:1], years)
		}
		want := lived(x, takes, recruits)
		if l, e := stock.Play(x, takes, recruits); !slices.Equal(l, want) || e != api.OK {
			t.Fatalf("Play of %v, %v, %v: %v, %d, not %v", x, takes, recruits, l, e, want)
		}
		if slices.Min(want) > 0 {
			some++
		}
	}
	if some < 2000 {
		t.Errorf("only %d races live on", some)
	}
}

func TestGreatYears(t *testing.T) { // P9.3
	r := rand.New(rand.NewPCG(9, 33))
	for range 30 {
		x, years := anyRace(r, 6, 100000), 10
		x.Spawn = numbers(r, 6, 0, 100)
		takes, recruits := numbers(r, years, 0, 300000), numbers(r, years, 0, 100000)
		want := lived(x, takes, recruits)
		if l, e := stock.Play(x, takes, recruits); !slices.Equal(l, want) || e != api.OK {
			t.Fatalf("Play of %v, %v, %v: %v, %d, not %v", x, takes, recruits, l, e, want)
		}
	}
}
