package barrel_test

import (
	"math"
	"math/rand/v2"
	"slices"
	"testing"

	"drifter/api"
	"drifter/barrel"
)

// yard is the one of the chapter's examples.
func yard() []api.BarrelCask {
	return []api.BarrelCask{{Level: 50, Full: 60, Line: 20, Leak: to(5, 10)}, {Level: 40, Full: 60, Line: 30, Leak: to(2, 8)}}
}

// cask is a barrel of which is known how much it leaks.
func cask(level, full, line, leak int) api.BarrelCask {
	return api.BarrelCask{Level: level, Full: full, Line: line, Leak: to(leak, leak)}
}

// wholeYard is a yard of which everything is as great, and as much, as can be.
func wholeYard() []api.BarrelCask {
	return slices.Repeat([]api.BarrelCask{cask(1000, 1000, 1000, 1000)}, 4)
}

// wrongYard calls every function with what is no yard, and with right and wrong questions.
func wrongYard(t *testing.T, what string, y []api.BarrelCask) {
	t.Helper()
	if e := barrel.CheckYard(y); e != api.ErrBarrelYard {
		t.Errorf("%s: CheckYard %d", what, e)
	}
	for _, plan := range [][]int{nil, {0}, {-1, 1}, {-2}, {5}, make([]int, 13)} {
		for _, leaks := range [][][]int{nil, {{5, 2}}, {{5, 2}, {5, 2}}, {nil}, make([][]int, 13)} {
			if l, d, e := barrel.Run(y, plan, leaks); len(l) != 0 || d != 0 || e != api.ErrBarrelYard {
				t.Errorf("%s: Run of %v, %v: %v, %d, %d", what, plan, leaks, l, d, e)
			}
		}
	}
	for _, months := range []int{0, 1, 12, -1, 13, math.MinInt, math.MaxInt} {
		if b, m, e := barrel.First(y, months); b != 0 || m != 0 || e != api.ErrBarrelYard {
			t.Errorf("%s: First within %d: %d, %d, %d", what, months, b, m, e)
		}
		if l, e := barrel.Keep(y, months); len(l) != 0 || e != api.ErrBarrelYard {
			t.Errorf("%s: Keep for %d: %v, %d", what, months, l, e)
		}
	}
}

func TestYardsThatAreWrong(t *testing.T) { // P6.2
	wrongYard(t, "nothing", nil)
	wrongYard(t, "no barrels", []api.BarrelCask{})
	wrongYard(t, "a barrel that is nothing", make([]api.BarrelCask, 1))
	wrongYard(t, "five barrels", slices.Repeat([]api.BarrelCask{cask(1, 1, 1, 1)}, 5))
	wrongYard(t, "far too many", slices.Repeat([]api.BarrelCask{cask(1, 1, 1, 1)}, 5000))
	for what, change := range map[string]func(c *api.BarrelCask){
		"without room":            func(c *api.BarrelCask) { *c = cask(0, 0, 0, 1) },
		"room below 0":            func(c *api.BarrelCask) { *c = cask(0, -1, 0, 1) },
		"all below 0":             func(c *api.BarrelCask) { *c = cask(-2, -1, -2, 1) },
		"too much room":           func(c *api.BarrelCask) { c.Full = 1001 },
		"far too much room":       func(c *api.BarrelCask) { c.Full = math.MaxInt },
		"room far below 0":        func(c *api.BarrelCask) { c.Full = math.MinInt },
		"a level below 0":         func(c *api.BarrelCask) { c.Level = -1 },
		"more than full":          func(c *api.BarrelCask) { c.Level = 61 },
		"far more than full":      func(c *api.BarrelCask) { c.Level = math.MaxInt },
		"a level far below 0":     func(c *api.BarrelCask) { c.Level = math.MinInt },
		"a line below 0":          func(c *api.BarrelCask) { c.Line = -1 },
		"a line above it":         func(c *api.BarrelCask) { c.Line = 61 },
		"a line far above it":     func(c *api.BarrelCask) { c.Line = math.MaxInt },
		"a line far below 0":      func(c *api.BarrelCask) { c.Line = math.MinInt },
		"a leak that is no span":  func(c *api.BarrelCask) { c.Leak = to(3, 2) },
		"a leak that begins < 0":  func(c *api.BarrelCask) { c.Leak = to(-1, 2) },
		"a leak below 0":          func(c *api.BarrelCask) { c.Leak = to(-3, -1) },
		"a leak that is too much": func(c *api.BarrelCask) { c.Leak = to(2, 1001) },
		"wholly too much":         func(c *api.BarrelCask) { c.Leak = to(1001, 1001) },
		"far too much":            func(c *api.BarrelCask) { c.Leak = to(0, math.MaxInt) },
		"far below 0":             func(c *api.BarrelCask) { c.Leak = to(math.MinInt, 0) },
		"anything":                func(c *api.BarrelCask) { c.Leak = to(math.MinInt, math.MaxInt) },
	} {
		for barrel := range 2 {
			y := yard()
			change(&y[barrel])
			wrongYard(t, what, y)
		}
	}
}

func TestYardsThatAreRight(t *testing.T) { // P6.2
	for i, y := range [][]api.BarrelCask{
		yard(), wholeYard(), {cask(0, 1, 0, 0)}, {cask(1, 1, 1, 0)}, {cask(0, 1000, 1000, 1000)}, {cask(1000, 1000, 0, 0)},
		{{Level: 3, Full: 5, Line: 5, Leak: to(0, 1000)}}, // below its line: so it is dry in the first month
	} {
		_, _, f := barrel.First(y, 0)
		_, g := barrel.Keep(y, 0)
		_, _, h := barrel.Run(y, nil, nil)
		if e := barrel.CheckYard(y); e != api.OK || f != api.ErrNone || g != api.OK || h != api.OK {
			t.Errorf("the yard %d: %d, %d, %d, %d", i, e, f, g, h)
		}
	}
}

func TestRun(t *testing.T) { // P6.2
	for i, x := range []struct {
		y      []api.BarrelCask
		plan   []int
		leaks  [][]int
		levels []int
		dry    int
	}{
		{yard(), []int{1, 0}, [][]int{{10, 8}, {5, 2}}, []int{60, 58}, -1},
		{yard(), []int{-1, -1}, [][]int{{10, 8}, {10, 8}}, []int{30, 24}, 1},
		{yard(), []int{-1, 1}, [][]int{{10, 8}, {10, 8}}, []int{30, 24}, 1},  // too late
		{yard(), []int{0, 0}, [][]int{{10, 8}, {10, 8}}, []int{50, 24}, 1},   // the other one
		{yard(), []int{1, -1}, [][]int{{10, 8}, {10, 8}}, []int{30, 52}, -1}, // in time
		{yard(), []int{-1, -1}, [][]int{{5, 2}, {5, 8}}, []int{40, 30}, -1},  // on its line
		{yard(), []int{-1, -1, 1}, [][]int{{5, 2}, {5, 8}, {5, 2}}, []int{35, 28}, 2},
		{yard(), []int{-1, -1, 1, 1}, [][]int{{5, 2}, {5, 8}, {5, 2}, {10, 8}}, []int{35, 28}, 2}, // what comes later does not count
		{yard(), []int{1, 1, 1, 1}, [][]int{{10, 8}, {10, 8}, {10, 8}, {10, 8}}, []int{10, 52}, 3},
		{yard(), []int{-1}, [][]int{{5, 2}}, []int{45, 38}, -1},
		{yard(), []int{1}, [][]int{{5, 2}}, []int{45, 60}, -1},
		{yard(), nil, nil, []int{50, 40}, -1}, {yard(), []int{}, [][]int{}, []int{50, 40}, -1},
		// below its line, but no month comes; and one comes
		{[]api.BarrelCask{cask(3, 5, 4, 0)}, nil, nil, []int{3}, -1},
		{[]api.BarrelCask{cask(3, 5, 4, 0)}, []int{0}, [][]int{{0}}, []int{3}, 0},
		// no less than nothing
		{[]api.BarrelCask{cask(3, 5, 0, 9)}, []int{-1, -1}, [][]int{{9}, {9}}, []int{0}, -1},
		{[]api.BarrelCask{cask(3, 5, 0, 9)}, []int{-1, 0}, [][]int{{9}, {9}}, []int{5}, -1},
		{[]api.BarrelCask{cask(3, 5, 1, 9)}, []int{0, 0}, [][]int{{9}, {9}}, []int{0}, 0},
		{[]api.BarrelCask{cask(3, 5, 0, 3), cask(9, 9, 1, 9)}, []int{0, 0}, [][]int{{3, 9}, {3, 9}}, []int{0, 0}, 0},
		{[]api.BarrelCask{cask(3, 3, 3, 1), cask(9, 9, 1, 2)}, []int{0, 0}, [][]int{{1, 2}, {1, 2}}, []int{2, 7}, 0}, // the later one has leaked, too
		{wholeYard(), []int{3}, [][]int{{1000, 1000, 1000, 1000}}, []int{0, 0, 0, 0}, 0},
		{slices.Repeat([]api.BarrelCask{cask(12, 12, 0, 1)}, 4), []int{0, 1, 2, 3, -1, -1, -1, -1, 3, 2, 1, 0}, slices.Repeat([][]int{{1, 1, 1, 1}}, 12), []int{12, 11, 10, 9}, -1},
	} {
		if l, d, e := barrel.Run(x.y, x.plan, x.leaks); !slices.Equal(l, x.levels) || d != x.dry || e != api.OK {
			t.Errorf("Run %d: %v, %d, %d", i, l, d, e)
		}
	}
}

func TestRunWithErrors(t *testing.T) { // P6.2
	twelve, thirteen := slices.Repeat([][]int{{5, 2}}, 12), slices.Repeat([][]int{{5, 2}}, 13)
	for i, x := range []struct {
		plan  []int
		leaks [][]int
	}{
		{[]int{2}, [][]int{{5, 2}}}, {[]int{-2}, [][]int{{5, 2}}}, {[]int{math.MinInt}, [][]int{{5, 2}}}, {[]int{math.MaxInt}, [][]int{{5, 2}}}, {[]int{0, 1, 2}, [][]int{{5, 2}, {5, 2}, {5, 2}}},
		{[]int{1}, [][]int{{4, 2}}}, {[]int{1}, [][]int{{11, 2}}}, {[]int{1}, [][]int{{5, 1}}}, {[]int{1}, [][]int{{5, 9}}}, {[]int{1}, [][]int{{math.MinInt, 2}}}, {[]int{1}, [][]int{{5, math.MaxInt}}},
		{[]int{1, 1}, [][]int{{5, 2}, {5, 9}}}, {[]int{1, 1}, [][]int{{5, 9}, {5, 2}}}, {[]int{1, 1}, [][]int{{5, 2}, {5}}},
		{[]int{1}, [][]int{{5}}}, {[]int{1}, [][]int{{5, 2, 2}}}, {[]int{1}, [][]int{{}}}, {[]int{1}, [][]int{nil}}, {[]int{1}, [][]int{make([]int, 999)}},
		{[]int{1}, nil}, {[]int{1}, [][]int{}}, {[]int{1}, [][]int{{5, 2}, {5, 2}}}, {nil, [][]int{{5, 2}}}, {[]int{1, 1}, [][]int{{5, 2}}},
		{make([]int, 13), thirteen}, {make([]int, 13), twelve}, {make([]int, 12), thirteen}, {make([]int, 13), nil}, {make([]int, 999), make([][]int, 999)},
		// although a barrel is dry before what is wrong
		{[]int{-1, -1, 2}, [][]int{{10, 8}, {10, 8}, {10, 8}}}, {[]int{-1, -1, -1}, [][]int{{10, 8}, {10, 8}, {10, 9}}}, {[]int{-1, -1, -1}, [][]int{{10, 8}, {10, 8}}},
	} {
		if l, d, e := barrel.Run(yard(), x.plan, x.leaks); len(l) != 0 || d != 0 || e != api.ErrBarrelPlan {
			t.Errorf("the wrong plan %d: %v, %d, %d", i, l, d, e)
		}
	}
	if _, d, e := barrel.Run(yard(), make([]int, 12), twelve); d != 5 || e != api.OK {
		t.Errorf("12 months: %d, %d", d, e)
	}
}

func TestFirst(t *testing.T) { // P6.3
	with := func(barrel int, change func(c *api.BarrelCask)) []api.BarrelCask {
		y := yard()
		change(&y[barrel])
		return y
	}
	for i, x := range []struct {
		y                     []api.BarrelCask
		months, barrel, month int
	}{
		{yard(), 12, 1, 1}, {yard(), 2, 1, 1},
		{with(1, func(c *api.BarrelCask) { c.Level = 37 }), 12, 1, 0}, {with(1, func(c *api.BarrelCask) { c.Level = 37 }), 1, 1, 0},
		{with(1, func(c *api.BarrelCask) { c.Level = 46 }), 12, 1, 2}, {with(1, func(c *api.BarrelCask) { c.Level = 45 }), 12, 1, 1},
		{with(1, func(c *api.BarrelCask) { c.Line = 0 }), 12, 0, 3}, {with(1, func(c *api.BarrelCask) { c.Line = 0 }), 4, 0, 3},
		{with(0, func(c *api.BarrelCask) { c.Level = 39 }), 12, 0, 1}, // both in one month
		{with(0, func(c *api.BarrelCask) { c.Level = 29 }), 12, 0, 0},
		{with(0, func(c *api.BarrelCask) { c.Leak = to(0, 31) }), 12, 0, 0}, // the greatest leak
		{[]api.BarrelCask{cask(1, 9, 2, 0)}, 1, 0, 0},                       // it does not leak
		{[]api.BarrelCask{cask(12, 12, 1, 1)}, 12, 0, 11},
		{[]api.BarrelCask{cask(0, 9, 0, 9), cask(9, 9, 1, 2), cask(9, 9, 1, 4), cask(9, 9, 1, 4)}, 12, 2, 2},
		{[]api.BarrelCask{cask(0, 9, 0, 9), cask(9, 9, 1, 3), cask(9, 9, 1, 3), cask(9, 9, 1, 4)}, 12, 1, 2},
		{[]api.BarrelCask{cask(9, 9, 1, 2), cask(9, 9, 1, 2), cask(9, 9, 1, 2), cask(9, 9, 1, 9)}, 12, 3, 0},
		{wholeYard(), 12, 0, 0},
	} {
		if b, m, e := barrel.First(x.y, x.months); b != x.barrel || m != x.month || e != api.OK {
			t.Errorf("First %d: %d, %d, %d", i, b, m, e)
		}
	}
	for i, x := range []struct {
		y      []api.BarrelCask
		months int
	}{
		{yard(), 1}, {yard(), 0}, {wholeYard(), 0}, {with(1, func(c *api.BarrelCask) { c.Line = 0 }), 3},
		{[]api.BarrelCask{cask(0, 9, 0, 1000)}, 12}, {[]api.BarrelCask{cask(9, 9, 9, 0)}, 12}, {[]api.BarrelCask{cask(12, 12, 0, 1)}, 12}, {[]api.BarrelCask{cask(13, 13, 1, 1)}, 12},
	} {
		if b, m, e := barrel.First(x.y, x.months); b != 0 || m != 0 || e != api.ErrNone {
			t.Errorf("First of none %d: %d, %d, %d", i, b, m, e)
		}
	}
}

// rightPlan holds what Keep returns to whether there is a plan.
func rightPlan(t *testing.T, y []api.BarrelCask, months int, is bool) {
	t.Helper()
	plan, e := barrel.Keep(y, months)
	if !is {
		if len(plan) != 0 || e != api.ErrNone {
			t.Errorf("%v: Keep for %d: %v, %d; there is none", y, months, plan, e)
		}
		return
	}
	if len(plan) != months || e != api.OK {
		t.Fatalf("%v: Keep for %d: %v, %d", y, months, plan, e)
	}
	for _, topped := range plan {
		if topped < -1 || topped >= len(y) {
			t.Fatalf("%v: Keep for %d: %v", y, months, plan)
		}
	}
	if levels, dry := runOf(y, plan, greatest(y, months)); dry != -1 {
		t.Errorf("%v: Keep for %d: %v; in the month %d there are %v", y, months, plan, dry, levels)
	}
}

func TestKeep(t *testing.T) { // P6.3
	low, both, pair := yard(), yard(), []api.BarrelCask{cask(4, 4, 1, 1), cask(4, 4, 1, 1)}
	low[1].Level = 37
	both[0].Level = 39
	for i, x := range []struct {
		y       []api.BarrelCask
		longest int // a plan for so many months is the longest one
	}{
		{yard(), 12}, {low, 0}, {both, 1}, {pair, 12}, {wholeYard(), 0},
		{[]api.BarrelCask{cask(1, 9, 0, 1000)}, 12},               // what is on no line is not dry
		{[]api.BarrelCask{cask(9, 9, 9, 0)}, 12},                  // and what does not leak
		{[]api.BarrelCask{cask(1, 9, 2, 0)}, 0},                   // it is below its line
		{[]api.BarrelCask{cask(9, 9, 9, 1)}, 0},                   // not even full
		{[]api.BarrelCask{cask(9, 9, 8, 1)}, 12},                  // just, month by month
		{slices.Repeat([]api.BarrelCask{cask(9, 9, 8, 1)}, 2), 1}, // one of them each month
		{slices.Repeat([]api.BarrelCask{cask(9, 9, 7, 1)}, 2), 12},
		{slices.Repeat([]api.BarrelCask{cask(9, 9, 7, 1)}, 3), 2},
		{slices.Repeat([]api.BarrelCask{cask(9, 9, 6, 1)}, 3), 12},
		{slices.Repeat([]api.BarrelCask{cask(9, 9, 5, 1)}, 4), 12},
		{slices.Repeat([]api.BarrelCask{cask(9, 9, 6, 1)}, 4), 3},
		// each second, fourth and fourth month
		{[]api.BarrelCask{cask(9, 9, 7, 1), cask(9, 9, 5, 1), cask(9, 9, 5, 1)}, 12},
		{[]api.BarrelCask{cask(9, 9, 5, 1), cask(9, 9, 5, 1), cask(9, 9, 7, 1)}, 12},
		// each second and third month leave no room for another one, but for as long as it lasts
		{[]api.BarrelCask{cask(9, 9, 7, 1), cask(9, 9, 6, 1)}, 12},
		{[]api.BarrelCask{cask(9, 9, 7, 1), cask(9, 9, 6, 1), cask(20, 20, 0, 1)}, 12},
		{[]api.BarrelCask{cask(9, 9, 7, 1), cask(9, 9, 6, 1), cask(20, 20, 12, 1)}, 10},
		{[]api.BarrelCask{cask(9, 9, 7, 1), cask(9, 9, 6, 1), cask(20, 20, 14, 1)}, 8},
		{[]api.BarrelCask{cask(20, 20, 17, 1), cask(9, 9, 7, 1), cask(9, 9, 6, 1)}, 4},
		// whichever is dry first, and of several the first one, is not the right one to be topped up each month
		{[]api.BarrelCask{cask(4, 6, 1, 1), cask(4, 4, 1, 1), cask(3, 3, 1, 1)}, 6},
		{[]api.BarrelCask{cask(3, 3, 1, 1), cask(3, 5, 1, 1), cask(4, 4, 1, 1)}, 6},
		{[]api.BarrelCask{cask(5, 6, 1, 1), cask(2, 3, 1, 1), cask(4, 5, 1, 1)}, 12},
	} {
		for months := range 13 {
			if is := canKeep(x.y, months); is != (months <= x.longest) {
				t.Fatalf("the yard %d: for %d months: %v", i, months, is)
			}
			rightPlan(t, x.y, months, months <= x.longest)
		}
	}
}

func TestMonthsThatAreWrong(t *testing.T) { // P6.3
	for _, months := range []int{-1, 13, 14, math.MinInt, math.MaxInt} {
		for _, y := range [][]api.BarrelCask{yard(), wholeYard()} {
			if b, m, e := barrel.First(y, months); b != 0 || m != 0 || e != api.ErrBarrelPlan {
				t.Errorf("First within %d: %d, %d, %d", months, b, m, e)
			}
			if l, e := barrel.Keep(y, months); len(l) != 0 || e != api.ErrBarrelPlan {
				t.Errorf("Keep for %d: %v, %d", months, l, e)
			}
		}
	}
}

func TestRunAgainstTheOracle(t *testing.T) { // P6.2
	keeps, dries := 0, 0
	eachYard(3000, func(r *rand.Rand, y []api.BarrelCask, months int) {
		plan := anyPlan(r, y, months)
		leaks := anyLeaks(r, y, months)
		levels, dry := runOf(y, plan, leaks)
		if l, d, e := barrel.Run(y, plan, leaks); !slices.Equal(l, levels) || d != dry || e != api.OK {
			t.Fatalf("%v: Run of %v, %v: %v, %d, %d; not %v, %d", y, plan, leaks, l, d, e, levels, dry)
		}
		switch {
		case dry > 0:
			dries++
		case dry < 0 && months > 1:
			keeps++
		}
	})
	if keeps < 200 || dries < 200 {
		t.Errorf("no barrel is dry only %d times, some barrel later only %d times", keeps, dries)
	}
}

func TestYardsAgainstTheOracle(t *testing.T) { // P6.3, P6.8
	keeps, dries, firsts := 0, 0, 0
	eachYard(2000, func(_ *rand.Rand, y []api.BarrelCask, months int) {
		want := api.ErrNone
		barrelOf, month, is := firstOf(y, months)
		if is {
			want = api.OK
			firsts++
		}
		if b, m, e := barrel.First(y, months); b != barrelOf || m != month || e != want {
			t.Fatalf("%v: First within %d: %d, %d, %d; not %d, %d, %d", y, months, b, m, e, barrelOf, month, want)
		}
		can := canKeep(y, months)
		rightPlan(t, y, months, can)
		switch {
		case can && is:
			keeps++
		case !can && month > 0:
			dries++
		}
	})
	if keeps < 100 || dries < 100 || firsts < 200 {
		t.Errorf("only %d yards are kept, %d are not, in %d one is dry first", keeps, dries, firsts)
	}
}

// With few months and leaks everything that can be is tried.
func TestSmallYards(t *testing.T) { // P6.3, P6.8
	r := rand.New(rand.NewPCG(6, 5))
	keeps, dries := 0, 0
	for range 400 {
		y, months := anyYard(r, 2, 8), between(r, 0, 3)
		all := allLeaks(y, months)
		nobody := slices.Repeat([]int{-1}, months)
		canBeDry := map[int]map[int]bool{}
		for _, leaks := range all {
			for month := range months {
				for i, c := range y {
					if levelAt(y, nobody, leaks, i, month) < c.Line {
						if canBeDry[month] == nil {
							canBeDry[month] = map[int]bool{}
						}
						canBeDry[month][i] = true
					}
				}
			}
		}
		b, m, e := barrel.First(y, months)
		for month := range months {
			for i := range y {
				before := month < m || month == m && i < b
				if canBeDry[month][i] && (e != api.OK || before) || e == api.OK && month == m && i == b && !canBeDry[month][i] {
					t.Fatalf("%v: First within %d: %d, %d, %d; can be dry: %v", y, months, b, m, e, canBeDry)
				}
			}
		}
		is := slices.ContainsFunc(allPlans(months, len(y)), func(plan []int) bool {
			return !slices.ContainsFunc(all, func(leaks [][]int) bool {
				_, dry := runOf(y, plan, leaks)
				return dry >= 0
			})
		})
		rightPlan(t, y, months, is)
		if is {
			keeps++
		} else {
			dries++
		}
	}
	if keeps < 30 || dries < 30 {
		t.Errorf("only %d yards are kept, %d are not", keeps, dries)
	}
}
