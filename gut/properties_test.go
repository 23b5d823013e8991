package gut_test

import (
	"math/rand/v2"
	"slices"
	"testing"

	"drifter/api"
	"drifter/gut"
)

func best(t *testing.T, d api.GutDay) ([]api.GutTask, int) {
	t.Helper()
	plan, n, e := gut.Best(d)
	if e != api.OK {
		t.Fatalf("Best of %v: %d", d, e)
	}
	return plan, n
}

func told(t *testing.T, d api.GutDay) api.Span {
	t.Helper()
	s, e := gut.Told(d)
	if e != api.OK {
		t.Fatalf("Told of %v: %d", d, e)
	}
	return s
}

func deficit(t *testing.T, d api.GutDay, lots []int) int {
	t.Helper()
	n, e := gut.Deficit(d, lots)
	if e != api.OK {
		t.Fatalf("Deficit of %v, %v: %d", d, lots, e)
	}
	return n
}

// known returns a day whose heats are known.
func known(d api.GutDay, heats []int) api.GutDay {
	d = deep(d)
	for hour, n := range heats {
		d.Heat[hour] = to(n, n)
	}
	return d
}

func TestTheHeat(t *testing.T) { // P5.7
	crans := 0
	each(900, func(r *rand.Rand, d api.GutDay) {
		plan, _ := best(t, d)
		other := anyPlan(r, d)
		if _, is, e := gut.IsPlan(d, other); !is || e != api.OK {
			t.Fatalf("%v: IsPlan of %v: %v, %d", d, other, is, e)
		}
		for _, heats := range [][]int{lows(d), highs(d), anyHeats(r, d), anyHeats(r, d)} {
			for _, k := range slices.Concat(plan, other) {
				crans += k.Crans
				if k.Hour < d.Lots[k.Lot].Landed || k.Hour > untilOf(d, heats, k.Lot) {
					t.Fatalf("%v: %v, and with the heats %v it keeps until %d", d, k, heats, untilOf(d, heats, k.Lot))
				}
			}
		}
	})
	if crans < 10000 {
		t.Errorf("only %d crans are taken", crans)
	}
}

// A task of an hour in which a lot is too hot already with heats that can be is none.
func TestTheHeatThatCanBe(t *testing.T) { // P5.7
	tooHot := 0
	each(900, func(r *rand.Rand, d api.GutDay) {
		heats := anyHeats(r, d)
		for at, lots := range takers(d, lows(d)) {
			for _, lot := range lots {
				if at.hour <= untilOf(d, heats, lot) {
					continue
				}
				tooHot++
				if n, is, e := gut.IsPlan(d, tasks(lot, at.worker, at.hour, 1)); n != 0 || is || e != api.OK {
					t.Fatalf("%v: IsPlan of a cran of %d at %v: %d, %v, %d", d, lot, at, n, is, e)
				}
			}
		}
	})
	if tooHot < 200 {
		t.Errorf("lots are too hot only %d times", tooHot)
	}
}

func TestTheDeficit(t *testing.T) { // P5.8
	some := 0
	each(400, func(r *rand.Rand, d api.GutDay) {
		greatest := 0
		plan := anyPlan(r, d)
		lost, is, e := gut.IsPlan(d, plan)
		if !is || e != api.OK {
			t.Fatalf("%v: IsPlan of %v: %v, %d", d, plan, is, e)
		}
		for _, lots := range allLists(len(d.Lots)) {
			n := deficit(t, d, lots)
			if lost < n {
				t.Fatalf("%v: %v loses %d, and the deficit of %v is %d", d, plan, lost, lots, n)
			}
			greatest = max(greatest, n)
		}
		proof, e := gut.Proof(d)
		if n := deficit(t, d, proof); n != greatest || e != api.OK {
			t.Fatalf("%v: the deficit of %v is %d, the greatest one %d; %d", d, proof, n, greatest, e)
		}
		if len(proof) > 0 {
			some++
		}
		rightBest(t, d, greatest)
		if s := told(t, d); s.High != greatest {
			t.Fatalf("%v: Told %v, the greatest deficit is %d", d, s, greatest)
		}
		if _, cold := proofOf(d, lows(d)); told(t, d).Low != cold {
			t.Fatalf("%v: Told %v, the greatest deficit at best is %d", d, told(t, d), cold)
		}
	})
	if some < 100 {
		t.Errorf("crans are lost only %d times", some)
	}
}

// lessHeat returns a day of which some heats are less, at one end or at both.
func lessHeat(r *rand.Rand, d api.GutDay) api.GutDay {
	d = deep(d)
	for hour, s := range d.Heat {
		if r.IntN(2) == 0 {
			low := between(r, 0, s.Low)
			d.Heat[hour] = to(low, between(r, low, s.High))
		}
	}
	return d
}

// better returns days on which not more crans can be lost.
func better(r *rand.Rand, d api.GutDay) map[string]api.GutDay {
	days := map[string]api.GutDay{"less heat": lessHeat(r, d)}
	if n := len(d.Lots); n > 0 {
		more := deep(d)
		l := &more.Lots[r.IntN(n)]
		l.Keep = between(r, l.Keep, min(l.Keep+50, api.GutKeep))
		days["a greater Keep"] = more
	}
	if n := len(d.Workers); n > 0 {
		more := deep(d)
		w := &more.Workers[r.IntN(n)]
		w.Rate = between(r, w.Rate, api.GutRate)
		days["a greater Rate"] = more
	}
	if len(d.Workers) < api.GutWorkers {
		more := deep(d)
		more.Workers = slices.Insert(more.Workers, r.IntN(len(d.Workers)+1), anyWorker(r, d.Hours, 5))
		days["a worker more"] = more
	}
	return days
}

func TestBetterDays(t *testing.T) { // P5.9
	fewer := map[string]int{}
	each(1500, func(r *rand.Rand, d api.GutDay) {
		_, lost := best(t, d)
		s := told(t, d)
		for what, more := range better(r, d) {
			_, n := best(t, more)
			m := told(t, more)
			if n > lost || m.Low > s.Low || m.High > s.High {
				t.Fatalf("%v: %d are lost, %v; with %s, %v: %d, %v", d, lost, s, what, more, n, m)
			}
			if n < lost {
				fewer[what]++
			}
		}
	})
	for _, what := range []string{"less heat", "a greater Keep", "a greater Rate", "a worker more"} {
		if fewer[what] < 50 {
			t.Errorf("with %s fewer crans are lost only %d times", what, fewer[what])
		}
	}
}

func TestALotMore(t *testing.T) { // P5.9
	some, all := 0, 0
	each(1500, func(r *rand.Rand, d api.GutDay) {
		if len(d.Lots) == api.GutLots {
			return
		}
		_, lost := best(t, d)
		s := told(t, d)
		more, l := deep(d), anyLot(r, d.Hours, 10, 20)
		more.Lots = slices.Insert(more.Lots, r.IntN(len(d.Lots)+1), l)
		_, n := best(t, more)
		m := told(t, more)
		if n < lost || n > lost+l.Crans || m.Low < s.Low || m.Low > s.Low+l.Crans || m.High < s.High || m.High > s.High+l.Crans {
			t.Fatalf("%v: %d are lost, %v; with %v more %d, %v", d, lost, s, l, n, m)
		}
		switch {
		case n == lost+l.Crans:
			all++
		case n > lost:
			some++
		}
	})
	if some < 50 || all < 50 {
		t.Errorf("some of the lot are lost only %d times, and all of it %d times", some, all)
	}
}

func TestTheCran(t *testing.T) { // P5.10
	each(900, func(r *rand.Rand, d api.GutDay) {
		plan, lost := best(t, d)
		other := anyPlan(r, d)
		otherLost, is, e := gut.IsPlan(d, other)
		if !is || e != api.OK {
			t.Fatalf("%v: IsPlan of %v: %v, %d", d, other, is, e)
		}
		for _, x := range []struct {
			plan []api.GutTask
			lost int
		}{{plan, lost}, {other, otherLost}} {
			if taken(x.plan)+x.lost != allCrans(d) || !isPlan(d, x.plan) {
				t.Fatalf("%v: of %d crans %v takes %d, and %d are lost", d, allCrans(d), x.plan, taken(x.plan), x.lost)
			}
			// with one cran of a task taken, a task of as many as the lot has, or as the worker takes in the hour, is one cran too many
			for _, k := range x.plan {
				k.Crans = min(d.Lots[k.Lot].Crans, d.Workers[k.Worker].Rate)
				if n, is, e := gut.IsPlan(d, append(slices.Clone(x.plan), k)); n != 0 || is || e != api.OK {
					t.Fatalf("%v: IsPlan of %v, and %v: %d, %v, %d", d, x.plan, k, n, is, e)
				}
			}
		}
	})
}

func TestWhatIsTold(t *testing.T) { // P5.11
	inside := 0
	each(900, func(r *rand.Rand, d api.GutDay) {
		s := told(t, d)
		for range 4 {
			heats := anyHeats(r, d)
			_, n := best(t, known(d, heats))
			if n < s.Low || n > s.High {
				t.Fatalf("%v: Told %v; with the heats %v %d are lost", d, s, heats, n)
			}
			if n > s.Low && n < s.High {
				inside++
			}
		}
		_, low := best(t, known(d, lows(d)))
		_, high := best(t, known(d, highs(d)))
		if s != to(low, high) {
			t.Fatalf("%v: Told %v; with the least heats %d are lost, with the greatest ones %d", d, s, low, high)
		}
	})
	if inside < 50 {
		t.Errorf("only %d times neither the least nor the greatest number is lost", inside)
	}
}
