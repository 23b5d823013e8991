package gut_test

import (
	"math"
	"math/rand/v2"
	"reflect"
	"slices"
	"testing"

	"drifter/api"
	"drifter/gut"
)

func to(low, high int) api.Span { return api.Span{Low: low, High: high} }

// yard is the day of the chapter's examples, with some of its lots.
func yard(lots ...int) api.GutDay {
	all := []api.GutLot{{Crans: 10, Landed: 0, Keep: 20, Fit: 1}, {Crans: 8, Landed: 1, Keep: 30, Fit: 3}, {Crans: 12, Landed: 2, Keep: 40, Fit: 5}}
	d := api.GutDay{
		Hours:   6,
		Heat:    []api.Span{to(5, 6), to(5, 8), to(6, 10), to(6, 10), to(4, 8), to(3, 6)},
		Workers: []api.GutWorker{{Kind: 0, From: 0, To: 3, Rate: 3}, {Kind: 1, From: 2, To: 5, Rate: 1}, {Kind: 2, From: 4, To: 4, Rate: 5}},
	}
	for _, lot := range lots {
		d.Lots = append(d.Lots, all[lot])
	}
	return d
}

// most is a day of which everything is as great, and as much, as can be.
func most() api.GutDay {
	return api.GutDay{
		Hours: 24, Heat: slices.Repeat([]api.Span{to(100, 100)}, 24),
		Lots:    slices.Repeat([]api.GutLot{{Crans: 50, Keep: 10000, Fit: 7}}, 8),
		Workers: slices.Repeat([]api.GutWorker{{Kind: 2, To: 23, Rate: 20}}, 6),
	}
}

// mild is a day of so many hours without heat, so that all lots keep until its end.
func mild(hours int, lots []api.GutLot, workers ...api.GutWorker) api.GutDay {
	return api.GutDay{Hours: hours, Heat: make([]api.Span, hours), Lots: lots, Workers: workers}
}

// tasks reads lots, workers, hours and crans in turn.
func tasks(l ...int) []api.GutTask {
	var plan []api.GutTask
	for i := 0; i < len(l); i += 4 {
		plan = append(plan, api.GutTask{Lot: l[i], Worker: l[i+1], Hour: l[i+2], Crans: l[i+3]})
	}
	return plan
}

// wrongDay calls every function with a day that is not valid, and with right and wrong questions: with an error, everything else must be zero (R1, R2, P1).
func wrongDay(t *testing.T, what string, d api.GutDay) {
	t.Helper()
	if e := gut.Check(d); e != api.ErrGut {
		t.Errorf("%s: Check %d", what, e)
	}
	for _, lot := range []int{0, 1, -1, 99} {
		if a, b, e := gut.Until(d, lot); a != 0 || b != 0 || e != api.ErrGut {
			t.Errorf("%s: Until of %d: %d, %d, %d", what, lot, a, b, e)
		}
	}
	for _, plan := range [][]api.GutTask{nil, tasks(0, 0, 0, 3), tasks(9, 9, 9, -9)} {
		if n, is, e := gut.IsPlan(d, plan); n != 0 || is || e != api.ErrGut {
			t.Errorf("%s: IsPlan of %v: %d, %v, %d", what, plan, n, is, e)
		}
	}
	if plan, n, e := gut.Best(d); len(plan) != 0 || n != 0 || e != api.ErrGut {
		t.Errorf("%s: Best %v, %d, %d", what, plan, n, e)
	}
	for _, lots := range [][]int{nil, {0}, {0, 1, 2}, {1, 0}, {-1}} {
		if n, e := gut.Deficit(d, lots); n != 0 || e != api.ErrGut {
			t.Errorf("%s: Deficit of %v: %d, %d", what, lots, n, e)
		}
	}
	if lots, e := gut.Proof(d); len(lots) != 0 || e != api.ErrGut {
		t.Errorf("%s: Proof %v, %d", what, lots, e)
	}
	if s, e := gut.Told(d); s != (api.Span{}) || e != api.ErrGut {
		t.Errorf("%s: Told %v, %d", what, s, e)
	}
	for _, l := range [][]api.GutWorker{nil, {{Rate: 3}}, {{}, {Rate: 3}}, make([]api.GutWorker, 7), {{Kind: 3}}} {
		if i, n, e := gut.Help(d, l); i != 0 || n != 0 || e != api.ErrGut {
			t.Errorf("%s: Help of %v: %d, %d, %d", what, l, i, n, e)
		}
	}
}

func TestDaysThatAreWrong(t *testing.T) { // P5.1
	for what, change := range map[string]func(d *api.GutDay){
		"nothing":                        func(d *api.GutDay) { *d = api.GutDay{} },
		"no hours":                       func(d *api.GutDay) { d.Hours, d.Heat, d.Lots, d.Workers = 0, nil, nil, nil },
		"hours below 0":                  func(d *api.GutDay) { *d = api.GutDay{Hours: -1} },
		"hours far below 0":              func(d *api.GutDay) { *d = api.GutDay{Hours: math.MinInt} },
		"25 hours":                       func(d *api.GutDay) { d.Hours, d.Heat = 25, make([]api.Span, 25) },
		"far too many hours":             func(d *api.GutDay) { d.Hours = math.MaxInt },
		"an hour without a heat":         func(d *api.GutDay) { d.Hours = 7 },
		"a heat without an hour":         func(d *api.GutDay) { d.Heat = append(d.Heat, to(1, 2)) },
		"no heats":                       func(d *api.GutDay) { d.Heat = nil },
		"a heat that is no span":         func(d *api.GutDay) { d.Heat[5] = to(6, 5) },
		"a heat below 0":                 func(d *api.GutDay) { d.Heat[0] = to(-1, 5) },
		"a heat that is too great":       func(d *api.GutDay) { d.Heat[2] = to(6, 101) },
		"one far below 0":                func(d *api.GutDay) { d.Heat[1] = to(math.MinInt, math.MaxInt) },
		"one far too great":              func(d *api.GutDay) { d.Heat[1] = to(math.MaxInt, math.MaxInt) },
		"one wholly below 0":             func(d *api.GutDay) { d.Heat[1] = to(-3, -2) },
		"nine lots":                      func(d *api.GutDay) { d.Lots = slices.Repeat(d.Lots, 3) },
		"a lot without crans":            func(d *api.GutDay) { d.Lots[0].Crans = 0 },
		"crans below 0":                  func(d *api.GutDay) { d.Lots[2].Crans = -1 },
		"51 crans":                       func(d *api.GutDay) { d.Lots[2].Crans = 51 },
		"far too many crans":             func(d *api.GutDay) { d.Lots[1].Crans = math.MaxInt },
		"landed before the day":          func(d *api.GutDay) { d.Lots[0].Landed = -1 },
		"landed after it":                func(d *api.GutDay) { d.Lots[1].Landed = 6 },
		"landed long before it":          func(d *api.GutDay) { d.Lots[1].Landed = math.MinInt },
		"landed long after it":           func(d *api.GutDay) { d.Lots[1].Landed = math.MaxInt },
		"a lot that keeps below 0":       func(d *api.GutDay) { d.Lots[0].Keep = -1 },
		"a lot that keeps too long":      func(d *api.GutDay) { d.Lots[2].Keep = 10001 },
		"one far below 0 heat":           func(d *api.GutDay) { d.Lots[2].Keep = math.MinInt },
		"one far too long":               func(d *api.GutDay) { d.Lots[2].Keep = math.MaxInt },
		"a fit below 0":                  func(d *api.GutDay) { d.Lots[2].Fit = -1 },
		"a fit of a kind 3":              func(d *api.GutDay) { d.Lots[0].Fit = 8 },
		"a fit far too great":            func(d *api.GutDay) { d.Lots[0].Fit = math.MaxInt },
		"seven workers":                  func(d *api.GutDay) { d.Workers = slices.Repeat(d.Workers, 3)[:7] },
		"a kind below 0":                 func(d *api.GutDay) { d.Workers[0].Kind = -1 },
		"a kind 3":                       func(d *api.GutDay) { d.Workers[2].Kind = 3 },
		"a kind far too great":           func(d *api.GutDay) { d.Workers[2].Kind = math.MaxInt },
		"one who begins before":          func(d *api.GutDay) { d.Workers[0].From = -1 },
		"one who ends after":             func(d *api.GutDay) { d.Workers[1].To = 6 },
		"one who never ends":             func(d *api.GutDay) { d.Workers[1].To = math.MaxInt },
		"one who begins and ends after":  func(d *api.GutDay) { d.Workers[1].From, d.Workers[1].To = 6, 6 },
		"one who begins and ends before": func(d *api.GutDay) { d.Workers[1].From, d.Workers[1].To = -1, -1 },
		"one who ends too early":         func(d *api.GutDay) { d.Workers[1].To = 1 },
		"a rate below 0":                 func(d *api.GutDay) { d.Workers[2].Rate = -1 },
		"a rate that is too great":       func(d *api.GutDay) { d.Workers[0].Rate = 21 },
		"one that is far too great":      func(d *api.GutDay) { d.Workers[0].Rate = math.MaxInt },
	} {
		d := yard(0, 1, 2)
		change(&d)
		wrongDay(t, what, d)
	}
}

func TestDaysThatAreRight(t *testing.T) { // P5.1
	least := mild(1, []api.GutLot{{Crans: 1}}, api.GutWorker{})
	for i, d := range []api.GutDay{yard(), yard(0), yard(0, 1, 2), most(), least, mild(1, nil), mild(24, nil, api.GutWorker{From: 23, To: 23}), mild(3, []api.GutLot{{Crans: 1, Landed: 2}})} {
		if len(d.Lots) > 0 {
			if _, _, e := gut.Until(d, len(d.Lots)-1); e != api.OK {
				t.Errorf("the day %d: Until %d", i, e)
			}
		}
		lost, is, e1 := gut.IsPlan(d, nil)
		_, _, e2 := gut.Best(d)
		_, e3 := gut.Deficit(d, nil)
		_, e4 := gut.Proof(d)
		_, e5 := gut.Told(d)
		_, _, e6 := gut.Help(d, make([]api.GutWorker, 6))
		if e := gut.Check(d); e != api.OK || e1 != api.OK || e2 != api.OK || e3 != api.OK || e4 != api.OK || e5 != api.OK || e6 != api.OK {
			t.Errorf("the day %d: %d, %d, %d, %d, %d, %d, %d", i, e, e1, e2, e3, e4, e5, e6)
		}
		if lost != allCrans(d) || !is {
			t.Errorf("the day %d: no tasks lose %d, %v", i, lost, is)
		}
	}
}

func TestUntil(t *testing.T) { // P5.1
	keep := func(landed, keep int) api.GutDay {
		d := yard(0)
		d.Lots[0].Landed, d.Lots[0].Keep = landed, keep
		return d
	}
	for i, x := range []struct {
		d                 api.GutDay
		lot, surely, best int
	}{
		{yard(0, 1, 2), 0, 1, 2}, {yard(0, 1, 2), 1, 3, 5}, {yard(0, 1, 2), 2, 5, 5},
		{keep(0, 5), 0, -1, 0}, {keep(0, 4), 0, -1, -1}, {keep(0, 6), 0, 0, 0}, // not even the first hour, also at best
		{keep(0, 14), 0, 1, 1}, {keep(0, 13), 0, 0, 1}, // just as much heat, and one more
		{keep(0, 24), 0, 2, 3}, {keep(0, 23), 0, 1, 3}, {keep(0, 48), 0, 5, 5}, {keep(0, 47), 0, 4, 5}, {keep(0, 10000), 0, 5, 5},
		{keep(3, 10), 0, 3, 4}, {keep(3, 9), 0, 2, 3}, {keep(3, 5), 0, 2, 2}, {keep(3, 0), 0, 2, 2}, // what was before it landed does not count
		{keep(5, 6), 0, 5, 5}, {keep(5, 5), 0, 4, 5}, {keep(5, 2), 0, 4, 4},
		{mild(3, []api.GutLot{{Crans: 1}}), 0, 2, 2}, {mild(24, []api.GutLot{{Crans: 1}, {Crans: 1, Landed: 23}}), 1, 23, 23},
		{most(), 7, 23, 23},
	} {
		if a, b, e := gut.Until(x.d, x.lot); a != x.surely || b != x.best || e != api.OK {
			t.Errorf("Until %d: %d, %d, %d", i, a, b, e)
		}
	}
	for _, lot := range []int{3, -1, 8, math.MinInt, math.MaxInt} {
		if a, b, e := gut.Until(yard(0, 1, 2), lot); a != 0 || b != 0 || e != api.ErrRange {
			t.Errorf("Until of %d: %d, %d, %d", lot, a, b, e)
		}
	}
	if a, b, e := gut.Until(yard(), 0); a != 0 || b != 0 || e != api.ErrRange {
		t.Errorf("Until without lots: %d, %d, %d", a, b, e)
	}
}

func TestIsPlan(t *testing.T) { // P5.2
	for i, x := range []struct {
		plan []api.GutTask
		lost int
		is   bool
	}{
		{nil, 30, true}, {[]api.GutTask{}, 30, true},
		{tasks(0, 0, 0, 3, 0, 0, 1, 3, 2, 2, 4, 5), 19, true},
		{tasks(2, 2, 4, 5, 0, 0, 1, 3, 0, 0, 0, 3), 19, true},             // in any order
		{tasks(0, 0, 0, 1, 0, 0, 0, 1, 0, 0, 0, 1), 27, true},             // in parts
		{tasks(0, 0, 1, 2, 1, 0, 1, 1), 27, true},                         // two lots in an hour
		{tasks(1, 0, 1, 3, 1, 0, 2, 3, 1, 1, 2, 1, 1, 1, 3, 1), 22, true}, // all of a lot, by two workers
		{tasks(2, 0, 2, 3, 2, 0, 3, 3, 2, 2, 4, 5), 19, true},
		{tasks(1, 0, 3, 1), 29, true},  // until it keeps
		{tasks(2, 2, 4, 1), 29, true},  // and before
		{tasks(0, 0, 2, 3), 0, false},  // it keeps until 1
		{tasks(0, 0, 0, 4), 0, false},  // more than the rate
		{tasks(1, 2, 4, 1), 0, false},  // a boat does not fit
		{tasks(0, 1, 2, 1), 0, false},  // nor does a kiln
		{tasks(2, 1, 3, 1), 0, false},  // nor here
		{tasks(1, 1, 4, 1), 0, false},  // at best only
		{tasks(1, 0, 0, 1), 0, false},  // not landed
		{tasks(1, 1, 1, 1), 0, false},  // who begins later
		{tasks(2, 2, 5, 1), 0, false},  // who has ended
		{tasks(2, 0, 4, 1), 0, false},  // this one, too
		{tasks(2, 2, 3, 1), 0, false},  // who begins later
		{tasks(0, 0, 0, 0), 0, false},  // no crans
		{tasks(0, 0, 0, -1), 0, false}, // less than none
		{tasks(0, 0, 0, 2, 0, 0, 0, 0), 0, false},
		{tasks(0, 0, 0, 2, 0, 0, 0, 2), 0, false}, // more than the rate together
		{tasks(0, 0, 1, 2, 1, 0, 1, 2), 0, false}, // of two lots
		{tasks(0, 0, 0, 4, 0, 0, 0, -1), 0, false},
		{tasks(0, 0, 0, 3, 0, 0, 1, 3, 2, 2, 4, 6), 0, false}, // only the last one is wrong
		{tasks(0, 0, 0, 4, 2, 2, 4, 5), 0, false},             // only the first one
		{tasks(3, 0, 0, 1), 0, false}, {tasks(-1, 0, 0, 1), 0, false}, {tasks(math.MinInt, 0, 0, 1), 0, false}, {tasks(math.MaxInt, 0, 0, 1), 0, false},
		{tasks(0, 3, 0, 1), 0, false}, {tasks(0, -1, 0, 1), 0, false}, {tasks(0, math.MinInt, 0, 1), 0, false}, {tasks(0, math.MaxInt, 0, 1), 0, false},
		{tasks(0, 0, 6, 1), 0, false}, {tasks(0, 0, -1, 1), 0, false}, {tasks(0, 0, math.MinInt, 1), 0, false}, {tasks(0, 0, math.MaxInt, 1), 0, false},
		{tasks(0, 0, 0, math.MinInt), 0, false}, {tasks(0, 0, 0, math.MaxInt), 0, false},
		// they would wrap around to 2
		{tasks(0, 0, 0, math.MaxInt, 0, 0, 0, math.MaxInt, 0, 0, 0, 4), 0, false},
		{tasks(0, 0, 0, 2, 0, 0, 0, math.MinInt, 0, 0, 0, math.MinInt), 0, false},
		{make([]api.GutTask, 1000), 0, false},
	} {
		if n, is, e := gut.IsPlan(yard(0, 1, 2), x.plan); n != x.lost || is != x.is || e != api.OK {
			t.Errorf("IsPlan %d: %d, %v, %d", i, n, is, e)
		}
	}
	if n, is, e := gut.IsPlan(mild(1, nil), nil); n != 0 || !is || e != api.OK {
		t.Errorf("IsPlan of nothing: %d, %v, %d", n, is, e)
	}
}

func TestIsPlanOfLots(t *testing.T) { // P5.2
	one := []api.GutLot{{Crans: 4, Fit: 1}}
	for i, x := range []struct {
		d    api.GutDay
		plan []api.GutTask
		lost int
		is   bool
	}{
		// no more than a lot has, by one worker, by two, in two hours
		{mild(1, one, api.GutWorker{Rate: 5}), tasks(0, 0, 0, 4), 0, true},
		{mild(1, one, api.GutWorker{Rate: 5}), tasks(0, 0, 0, 5), 0, false},
		{mild(1, one, api.GutWorker{Rate: 5}, api.GutWorker{Rate: 5}), tasks(0, 0, 0, 2, 0, 1, 0, 2), 0, true},
		{mild(1, one, api.GutWorker{Rate: 5}, api.GutWorker{Rate: 5}), tasks(0, 0, 0, 3, 0, 1, 0, 2), 0, false},
		{mild(2, one, api.GutWorker{To: 1, Rate: 5}), tasks(0, 0, 0, 1, 0, 0, 1, 3), 0, true},
		{mild(2, one, api.GutWorker{To: 1, Rate: 5}), tasks(0, 0, 0, 2, 0, 0, 1, 3), 0, false},
		// who takes nothing, and what nobody takes
		{mild(1, one, api.GutWorker{}), tasks(0, 0, 0, 1), 0, false},
		{mild(1, []api.GutLot{{Crans: 1}}, api.GutWorker{Rate: 5}), tasks(0, 0, 0, 1), 0, false},
		{mild(1, one, api.GutWorker{Kind: 2, Rate: 5}), tasks(0, 0, 0, 1), 0, false},
		{mild(1, []api.GutLot{{Crans: 1, Fit: 6}}, api.GutWorker{Kind: 0, Rate: 5}), tasks(0, 0, 0, 1), 0, false},
		{mild(1, []api.GutLot{{Crans: 1, Fit: 6}}, api.GutWorker{Kind: 1, Rate: 5}), tasks(0, 0, 0, 1), 0, true},
		{mild(1, []api.GutLot{{Crans: 1, Fit: 6}}, api.GutWorker{Kind: 2, Rate: 5}), tasks(0, 0, 0, 1), 0, true},
	} {
		if n, is, e := gut.IsPlan(x.d, x.plan); n != x.lost || is != x.is || e != api.OK {
			t.Errorf("IsPlan %d: %d, %v, %d", i, n, is, e)
		}
	}
	var plan []api.GutTask
	for i := range 400 {
		plan = append(plan, api.GutTask{Lot: i % 8, Worker: i % 6, Hour: i % 24, Crans: 1})
	}
	if n, is, e := gut.IsPlan(most(), plan); n != 0 || !is || e != api.OK {
		t.Errorf("IsPlan of 400 tasks: %d, %v, %d", n, is, e)
	}
	if n, is, e := gut.IsPlan(most(), append(plan, plan[0])); n != 0 || is || e != api.OK {
		t.Errorf("IsPlan of 401 tasks: %d, %v, %d", n, is, e)
	}
}

// rightBest holds what Best returns to how few crans are lost at least.
func rightBest(t *testing.T, d api.GutDay, want int) {
	t.Helper()
	plan, n, e := gut.Best(d)
	if n != want || !isPlan(d, plan) || allCrans(d)-taken(plan) != want || e != api.OK {
		t.Errorf("%v: Best %v, %d, %d; not %d", d, plan, n, e, want)
	}
	if m, is, e := gut.IsPlan(d, plan); m != want || !is || e != api.OK {
		t.Errorf("%v: IsPlan of the best one, %v: %d, %v, %d; not %d", d, plan, m, is, e, want)
	}
}

// chain is a day on which crans must make room for each other: the last lot fits the crew alone, the one before it the kiln, too, and the first one all three.
func chain() api.GutDay {
	return mild(1, []api.GutLot{{Crans: 2, Fit: 7}, {Crans: 2, Fit: 3}, {Crans: 2, Fit: 1}}, api.GutWorker{Rate: 2}, api.GutWorker{Kind: 1, Rate: 2}, api.GutWorker{Kind: 2, Rate: 2})
}

func TestBest(t *testing.T) { // P5.2
	for i, x := range []struct {
		d    api.GutDay
		want int
	}{
		{yard(0, 1, 2), 11}, {yard(0), 4}, {yard(), 0}, {yard(0, 1), 4}, {yard(1), 0}, {yard(2), 1},
		{most(), 0}, {chain(), 0}, {mild(1, nil), 0},
		{mild(1, []api.GutLot{{Crans: 7, Fit: 7}}), 7},                           // nobody
		{mild(1, []api.GutLot{{Crans: 7}}, api.GutWorker{Rate: 20}), 7},          // nobody who fits
		{mild(1, []api.GutLot{{Crans: 7, Fit: 7}}, api.GutWorker{}), 7},          // who takes nothing
		{mild(1, []api.GutLot{{Crans: 21, Fit: 7}}, api.GutWorker{Rate: 20}), 1}, // the greatest rate
		{mild(24, []api.GutLot{{Crans: 50, Fit: 7}}, api.GutWorker{To: 1, Rate: 20}, api.GutWorker{Kind: 1, From: 23, To: 23, Rate: 9}), 1},
	} {
		if _, n, e := gut.Best(x.d); n != x.want || e != api.OK {
			t.Errorf("Best %d: %d, %d", i, n, e)
		}
		rightBest(t, x.d, x.want)
	}
	// as many tasks as there can be: each cran is taken by another worker, or in another hour
	slow := most()
	for i := range slow.Workers {
		slow.Workers[i].Rate = 1
	}
	rightBest(t, slow, 400-6*24)
}

func TestDeficit(t *testing.T) { // P5.3
	for i, x := range []struct {
		lots []int
		want int
	}{{nil, 0}, {[]int{}, 0}, {[]int{0}, 4}, {[]int{1}, -3}, {[]int{2}, 1}, {[]int{0, 1}, 4}, {[]int{0, 2}, 5}, {[]int{1, 2}, 4}, {[]int{0, 1, 2}, 11}} {
		if n, e := gut.Deficit(yard(0, 1, 2), x.lots); n != x.want || e != api.OK {
			t.Errorf("Deficit %d: %d, %d", i, n, e)
		}
	}
	if n, e := gut.Deficit(most(), []int{0}); n != 50-6*24*20 || e != api.OK {
		t.Errorf("Deficit of one of all lots: %d, %d", n, e)
	}
	if n, e := gut.Deficit(most(), []int{0, 1, 2, 3, 4, 5, 6, 7}); n != 400-6*24*20 || e != api.OK {
		t.Errorf("Deficit of all lots: %d, %d", n, e)
	}
	if n, e := gut.Deficit(yard(), nil); n != 0 || e != api.OK {
		t.Errorf("Deficit without lots: %d, %d", n, e)
	}
	for i, lots := range [][]int{{1, 0}, {3}, {0, 0}, {-1}, {-1, 0}, {0, 1, 2, 3}, {0, 2, 1}, {0, 1, 1}, {2, 2}, {0, 3}, {math.MinInt}, {math.MaxInt}, {0, math.MaxInt}, {math.MinInt, 0}, make([]int, 99)} {
		if n, e := gut.Deficit(yard(0, 1, 2), lots); n != 0 || e != api.ErrGutLots {
			t.Errorf("the wrong lots %d: %d, %d", i, n, e)
		}
	}
	if n, e := gut.Deficit(yard(), []int{0}); n != 0 || e != api.ErrGutLots {
		t.Errorf("Deficit of no lot: %d, %d", n, e)
	}
}

func TestProof(t *testing.T) { // P5.3
	crew, kiln := api.GutWorker{Rate: 2}, api.GutWorker{Kind: 1, Rate: 2}
	for i, x := range []struct {
		d    api.GutDay
		want []int
	}{
		{yard(0, 1, 2), []int{0, 1, 2}}, {yard(0), []int{0}}, {yard(), nil}, {yard(0, 1), []int{0}}, {yard(1), nil}, {yard(2), []int{0}}, {yard(1, 2), []int{0, 1}},
		{most(), nil}, {chain(), nil},
		{mild(1, []api.GutLot{{Crans: 2, Fit: 1}}, crew), nil}, // its deficit is 0, as that of no lots
		{mild(1, []api.GutLot{{Crans: 3, Fit: 1}}, crew), []int{0}},
		// a lot of which as much can be taken by others as it has is not one of the fewest
		{mild(1, []api.GutLot{{Crans: 2, Fit: 2}, {Crans: 3, Fit: 1}}, crew, kiln), []int{1}},
		{mild(1, []api.GutLot{{Crans: 3, Fit: 2}, {Crans: 3, Fit: 1}}, crew, kiln), []int{0, 1}},
		{mild(1, []api.GutLot{{Crans: 1, Fit: 2}, {Crans: 2, Fit: 1}, {Crans: 1, Fit: 1}}, crew, kiln), []int{1, 2}},
		{mild(1, []api.GutLot{{Crans: 1, Fit: 1}, {Crans: 1}, {Crans: 1, Fit: 1}, {Crans: 1}}, crew), []int{1, 3}},
		{mild(1, slices.Repeat([]api.GutLot{{Crans: 50, Fit: 7}}, 8), crew), []int{0, 1, 2, 3, 4, 5, 6, 7}},
	} {
		if lots, e := gut.Proof(x.d); !slices.Equal(lots, x.want) || e != api.OK {
			t.Errorf("Proof %d: %v, %d", i, lots, e)
		}
	}
}

func TestTold(t *testing.T) { // P5.4
	cool := yard(0, 1, 2)
	cool.Heat = make([]api.Span, 6)
	for i, x := range []struct {
		d    api.GutDay
		want api.Span
	}{
		{yard(0, 1, 2), to(9, 11)}, {yard(0), to(1, 4)}, {yard(), to(0, 0)}, {yard(0, 1), to(2, 4)}, {yard(2), to(1, 1)}, {cool, to(9, 9)}, {most(), to(0, 0)},
		// one hour that is either cold or hot: all, or nothing
		{api.GutDay{Hours: 1, Heat: []api.Span{to(0, 100)}, Lots: []api.GutLot{{Crans: 7, Keep: 99, Fit: 1}}, Workers: []api.GutWorker{{Rate: 7}}}, to(0, 7)},
		{api.GutDay{Hours: 1, Heat: []api.Span{to(0, 100)}, Lots: []api.GutLot{{Crans: 7, Keep: 100, Fit: 1}}, Workers: []api.GutWorker{{Rate: 6}}}, to(1, 1)},
	} {
		if s, e := gut.Told(x.d); s != x.want || e != api.OK {
			t.Errorf("Told %d: %v, %d", i, s, e)
		}
	}
}

func TestHelp(t *testing.T) { // P5.5
	kiln, crew := api.GutWorker{Kind: 1, From: 1, To: 3, Rate: 1}, api.GutWorker{Kind: 0, From: 4, To: 5, Rate: 3}
	fast, lazy, late := kiln, crew, crew
	fast.Rate, lazy.Rate, late.From = 2, 0, 5
	full := yard(0, 1, 2)
	full.Workers = append(full.Workers, lazy, lazy, lazy)
	for i, x := range []struct {
		d           api.GutDay
		l           []api.GutWorker
		which, lost int
	}{
		{yard(0, 1, 2), []api.GutWorker{kiln, crew}, 1, 5},
		{yard(0, 1, 2), []api.GutWorker{crew, kiln}, 0, 5},
		{yard(0, 1, 2), []api.GutWorker{kiln}, 0, 8},
		{yard(0, 1, 2), []api.GutWorker{fast, crew}, 0, 5}, // the first one of several
		{yard(0, 1, 2), []api.GutWorker{lazy, kiln, crew, fast, crew, fast}, 2, 5},
		{yard(0, 1, 2), []api.GutWorker{lazy}, 0, 11}, // who is no help
		{yard(0, 1, 2), []api.GutWorker{lazy, lazy, late}, 2, 8},
		{yard(0), []api.GutWorker{crew, kiln, late}, 0, 4}, // nor is anybody here
		{yard(), []api.GutWorker{crew, kiln}, 0, 0},
		{full, []api.GutWorker{kiln, crew}, 1, 5}, // the seventh
		{most(), []api.GutWorker{crew}, 0, 0},
		{mild(1, []api.GutLot{{Crans: 50}}), make([]api.GutWorker, 6), 0, 50},
		{mild(1, []api.GutLot{{Crans: 50, Fit: 7}}), []api.GutWorker{{Rate: 19}, {Kind: 2, Rate: 20}}, 1, 30},
	} {
		if k, n, e := gut.Help(x.d, x.l); k != x.which || n != x.lost || e != api.OK {
			t.Errorf("Help %d: %d, %d, %d", i, k, n, e)
		}
	}
	for i, l := range [][]api.GutWorker{
		nil, {}, make([]api.GutWorker, 7), {{Kind: -1}}, {{Kind: 3}}, {{From: -1}}, {{To: 6}}, {{From: 6, To: 6}}, {{From: 3, To: 2}}, {{Rate: -1}}, {{Rate: 21}},
		{{Kind: math.MinInt}}, {{Kind: math.MaxInt}}, {{From: math.MinInt}}, {{To: math.MaxInt}}, {{Rate: math.MaxInt}}, {{Rate: math.MinInt}},
		{kiln, crew, {Rate: 21}}, {{Rate: 21}, kiln, crew}, make([]api.GutWorker, 400),
	} {
		if k, n, e := gut.Help(yard(0, 1, 2), l); k != 0 || n != 0 || e != api.ErrGutHelp {
			t.Errorf("the wrong workers %d: %d, %d, %d", i, k, n, e)
		}
	}
	// they are workers of this day, and not of a longer one
	if k, n, e := gut.Help(mild(3, nil), []api.GutWorker{{To: 3}}); k != 0 || n != 0 || e != api.ErrGutHelp {
		t.Errorf("Help after the day: %d, %d, %d", k, n, e)
	}
}

func TestUntilAgainstTheOracle(t *testing.T) { // P5.1
	each(900, func(_ *rand.Rand, d api.GutDay) {
		for lot := range d.Lots {
			if a, b, e := gut.Until(d, lot); a != untilOf(d, highs(d), lot) || b != untilOf(d, lows(d), lot) || e != api.OK {
				t.Fatalf("%v: Until of %d: %d, %d, %d", d, lot, a, b, e)
			}
		}
	})
}

func TestPlansAgainstTheOracle(t *testing.T) { // P5.2
	right, wrong := 0, 0
	each(3000, func(r *rand.Rand, d api.GutDay) {
		plan := anyPlan(r, d)
		if n, is, e := gut.IsPlan(d, plan); n != allCrans(d)-taken(plan) || !is || e != api.OK {
			t.Fatalf("%v: IsPlan of %v: %d, %v, %d", d, plan, n, is, e)
		}
		if len(plan) == 0 {
			return
		}
		k := &plan[r.IntN(len(plan))]
		switch by := between(r, -1, 1); r.IntN(4) {
		case 0:
			k.Lot += by
		case 1:
			k.Worker += by
		case 2:
			k.Hour += by
		case 3:
			k.Crans += by
		}
		want, is := 0, isPlan(d, plan)
		if is {
			want = allCrans(d) - taken(plan)
			right++
		} else {
			wrong++
		}
		if n, m, e := gut.IsPlan(d, plan); n != want || m != is || e != api.OK {
			t.Fatalf("%v: IsPlan of %v: %d, %v, %d; not %d, %v", d, plan, n, m, e, want, is)
		}
	})
	if right < 200 || wrong < 200 {
		t.Errorf("%d plans were right, and %d were wrong", right, wrong)
	}
}

func TestBestAgainstTheOracle(t *testing.T) { // P5.2, P5.4, P5.5
	r := rand.New(rand.NewPCG(5, 2))
	for range 1200 {
		d := anyDay(r, small)
		least, most := fewest(d, lows(d)), fewest(d, highs(d))
		rightBest(t, d, most)
		if s, e := gut.Told(d); s != to(least, most) || e != api.OK {
			t.Fatalf("%v: Told %v, %d; not %d to %d", d, s, e, least, most)
		}
		var l []api.GutWorker
		which, lost := 0, most+1
		for i := range between(r, 1, 3) {
			l = append(l, anyWorker(r, d.Hours, 3))
			more := deep(d)
			more.Workers = append(more.Workers, l[i])
			if n := fewest(more, highs(more)); n < lost {
				which, lost = i, n
			}
		}
		if k, n, e := gut.Help(d, l); k != which || n != lost || e != api.OK {
			t.Fatalf("%v: Help of %v: %d, %d, %d; not %d, %d", d, l, k, n, e, which, lost)
		}
	}
}

func TestDeficitAgainstTheOracle(t *testing.T) { // P5.3
	each(300, func(_ *rand.Rand, d api.GutDay) {
		for _, lots := range allLists(len(d.Lots)) {
			if n, e := gut.Deficit(d, lots); n != deficitOf(d, highs(d), lots) || e != api.OK {
				t.Fatalf("%v: Deficit of %v: %d, %d; not %d", d, lots, n, e, deficitOf(d, highs(d), lots))
			}
		}
		want, _ := proofOf(d, highs(d))
		if lots, e := gut.Proof(d); !slices.Equal(lots, want) || e != api.OK {
			t.Fatalf("%v: Proof %v, %d; not %v", d, lots, e, want)
		}
	})
}

// Arguments are as they were, also behind the end of a list, and two calls share no memory.
func TestMemory(t *testing.T) { // P5.6, P2, R4
	d := yard(0, 1, 2)
	d.Heat = append(make([]api.Span, 0, 40), d.Heat...)
	d.Lots = append(make([]api.GutLot, 0, 20), d.Lots...)
	d.Workers = append(make([]api.GutWorker, 0, 20), d.Workers...)
	plan := append(make([]api.GutTask, 0, 20), tasks(0, 0, 0, 3, 0, 0, 1, 3, 2, 2, 4, 5)...)
	lots := append(make([]int, 0, 20), 0, 2)
	hired := append(make([]api.GutWorker, 0, 20), api.GutWorker{Kind: 1, From: 1, To: 3, Rate: 1}, api.GutWorker{From: 4, To: 5, Rate: 3})
	before, hiredBefore := deep(d), slices.Clone(hired)
	call := func() []any {
		a, b, _ := gut.Until(d, 1)
		c, is, _ := gut.IsPlan(d, plan)
		_, lost, _ := gut.Best(d)
		n, _ := gut.Deficit(d, lots)
		proof, _ := gut.Proof(d)
		s, _ := gut.Told(d)
		k, m, _ := gut.Help(d, hired)
		return []any{a, b, c, is, lost, n, proof, s, k, m}
	}
	want := call()
	best, _, _ := gut.Best(d)
	proof, _ := gut.Proof(d)
	clear(best[:cap(best)])
	clear(proof[:cap(proof)])
	gut.Best(most())
	gut.Help(most(), make([]api.GutWorker, 6))
	if got := call(); !reflect.DeepEqual(got, want) || !slices.Equal(got[6].([]int), []int{0, 1, 2}) {
		t.Errorf("called again: %v, not %v", got, want)
	}
	rightBest(t, d, 11)
	if !reflect.DeepEqual(d, before) || !slices.Equal(plan, tasks(0, 0, 0, 3, 0, 0, 1, 3, 2, 2, 4, 5)) || !slices.Equal(lots, []int{0, 2}) || !slices.Equal(hired, hiredBefore) {
		t.Errorf("an argument has changed: %v, %v, %v, %v", d, plan, lots, hired)
	}
	for _, x := range slices.Concat(d.Workers[3:cap(d.Workers)], hired[2:cap(hired)]) {
		if x != (api.GutWorker{}) {
			t.Errorf("%v was written behind workers", x)
		}
	}
	for _, x := range d.Lots[3:cap(d.Lots)] {
		if x != (api.GutLot{}) {
			t.Errorf("%v was written behind lots", x)
		}
	}
	for _, x := range d.Heat[6:cap(d.Heat)] {
		if x != (api.Span{}) {
			t.Errorf("%v was written behind heats", x)
		}
	}
	for _, x := range plan[3:cap(plan)] {
		if x != (api.GutTask{}) {
			t.Errorf("%v was written behind a plan", x)
		}
	}
	for _, x := range lots[2:cap(lots)] {
		if x != 0 {
			t.Errorf("%v was written behind lots", x)
		}
	}
}

// An argument that is changed later does not change a result, nor what is called then; a nil list is an empty one.
func TestMemoryAfterwards(t *testing.T) { // P5.6, R3, R4
	d := yard(0, 1, 2)
	best, _, _ := gut.Best(d)
	proof, _ := gut.Proof(d)
	kept := slices.Clone(best)
	d.Lots[0], d.Lots[1], d.Lots[2], d.Workers[0], d.Heat[0] = api.GutLot{Crans: 1}, api.GutLot{Crans: 1}, api.GutLot{Crans: 1, Landed: 5}, api.GutWorker{}, to(0, 0)
	rightBest(t, d, 3)
	if lots, e := gut.Proof(d); !slices.Equal(lots, []int{0, 1, 2}) || e != api.OK {
		t.Errorf("an argument is kept: %v, %d", lots, e)
	}
	if n, e := gut.Deficit(d, []int{0, 1, 2}); n != 3 || e != api.OK {
		t.Errorf("an argument is kept: %d, %d", n, e)
	}
	if !slices.Equal(best, kept) || !slices.Equal(proof, []int{0, 1, 2}) {
		t.Errorf("results have changed: %v, %v", best, proof)
	}
	none, empty := mild(2, nil), mild(2, []api.GutLot{})
	none.Workers, empty.Workers = nil, []api.GutWorker{}
	for _, d := range []api.GutDay{none, empty} {
		rightBest(t, d, 0)
		if n, e := gut.Deficit(d, []int{}); n != 0 || e != api.OK {
			t.Errorf("Deficit of an empty list: %d, %d", n, e)
		}
	}
}
