package barrel_test

import (
	"math/rand/v2"
	"slices"
	"testing"

	"drifter/api"
	"drifter/barrel"
)

// barrels returns how many barrels Set returns.
func barrels(t *testing.T, p api.BarrelPile) int {
	t.Helper()
	l, e := barrel.Set(p)
	if (e == api.OK) != (len(l) > 0) || e != api.OK && e != api.ErrNone || !areBarrels(p, l) {
		t.Fatalf("Set of %v: %v, %d", p, l, e)
	}
	return len(l)
}

func TestTheCooper(t *testing.T) { // P6.7
	r := rand.New(rand.NewPCG(6, 7))
	stave, play := 0, 0
	for range 1500 {
		p := anyPile(r, 8)
		n := barrels(t, p)
		more := p
		more.Staves = slices.Insert(slices.Clone(p.Staves), r.IntN(len(p.Staves)+1), between(r, 1, max(1, min(p.Girth, api.BarrelWide))))
		switch m := barrels(t, more); {
		case m < n:
			t.Fatalf("%v: %d barrels; %v: %d", p, n, more, m)
		case m > n:
			stave++
		}
		more = p
		more.Play = between(r, p.Play, min(2*p.Play+1, api.BarrelPlay))
		switch m := barrels(t, more); {
		case m < n:
			t.Fatalf("%v: %d barrels; %v: %d", p, n, more, m)
		case m > n:
			play++
		}
		// no lists of more barrels are such of the pile
		for range 3 {
			l := anyLists(r, p)
			if is, e := barrel.AreBarrels(p, l); is && len(l) > n || e != api.OK {
				t.Fatalf("%v: %d barrels can be set up, but %v are such; %d", p, n, l, e)
			}
		}
	}
	if stave < 100 || play < 100 {
		t.Errorf("a stave more is of use only %d times, more play only %d times", stave, play)
	}
}

// run runs a plan.
func run(t *testing.T, y []api.BarrelCask, plan []int, leaks [][]int) int {
	t.Helper()
	_, dry, e := barrel.Run(y, plan, leaks)
	if e != api.OK {
		t.Fatalf("Run of %v, %v, %v: %d", y, plan, leaks, e)
	}
	return dry
}

// keeps reports whether no barrel is dry with the greatest leaks.
func keeps(t *testing.T, y []api.BarrelCask, plan []int) bool {
	t.Helper()
	return run(t, y, plan, greatest(y, len(plan))) == -1
}

func TestTheBrine(t *testing.T) { // P6.8
	kept, dry := 0, 0
	eachYard(1500, func(r *rand.Rand, y []api.BarrelCask, months int) {
		plan, e := barrel.Keep(y, months)
		if e == api.OK {
			kept++
			for range 5 {
				leaks := anyLeaks(r, y, months)
				if month := run(t, y, plan, leaks); month != -1 {
					t.Fatalf("%v: %v lets a barrel be dry in the month %d with the leaks %v", y, plan, month, leaks)
				}
			}
			if !keeps(t, y, plan) {
				t.Fatalf("%v: %v does not keep", y, plan)
			}
			return
		}
		dry++
		plans := [][]int{anyPlan(r, y, months), anyPlan(r, y, months), slices.Repeat([]int{-1}, months)}
		if months <= 4 && len(y) <= 3 {
			plans = allPlans(months, len(y))
		}
		for _, plan := range plans {
			if keeps(t, y, plan) {
				t.Fatalf("%v: Keep %d, but %v keeps", y, e, plan)
			}
		}
	})
	if kept < 200 || dry < 100 {
		t.Errorf("only %d yards are kept, %d are not", kept, dry)
	}
}

// goodPlans returns plans that keep a yard: the one of Keep, and all those of few months, or some others.
func goodPlans(t *testing.T, r *rand.Rand, y []api.BarrelCask, months int) [][]int {
	t.Helper()
	var plans [][]int
	if plan, e := barrel.Keep(y, months); e == api.OK {
		plans = append(plans, plan)
		for range 5 { // another barrel is topped up in some month, or none is
			other := slices.Clone(plan)
			for i := range other {
				if r.IntN(3) == 0 {
					other[i] = between(r, -1, len(y)-1)
				}
			}
			plans = append(plans, other)
		}
	}
	if months <= 3 {
		plans = append(plans, allPlans(months, len(y))...)
	}
	return slices.DeleteFunc(plans, func(plan []int) bool { return !keeps(t, y, plan) })
}

func TestTheFirstBarrel(t *testing.T) { // P6.9
	told, others := 0, 0
	eachYard(1500, func(r *rand.Rand, y []api.BarrelCask, months int) {
		first, month, e := barrel.First(y, months)
		if e != api.OK {
			return
		}
		for i, plan := range goodPlans(t, r, y, months) {
			if !slices.Contains(plan[:month], first) {
				t.Fatalf("%v: %v keeps, but the barrel %d is first, in the month %d", y, plan, first, month)
			}
			told++
			if i > 0 {
				others++
			}
		}
	})
	if told < 500 || others < 300 {
		t.Errorf("only %d plans, and %d others", told, others)
	}
}

// easier returns a yard that is not harder to keep: with less leaks, higher levels or lower lines.
func easier(r *rand.Rand, y []api.BarrelCask) []api.BarrelCask {
	y = slices.Clone(y)
	for i := range y {
		c := &y[i]
		switch r.IntN(4) {
		case 0:
			low := between(r, 0, c.Leak.Low)
			c.Leak = to(low, between(r, low, c.Leak.High))
		case 1:
			c.Level = between(r, c.Level, c.Full)
		case 2:
			c.Line = between(r, 0, c.Line)
		}
	}
	return y
}

func TestAPlanThatKeeps(t *testing.T) { // P6.9
	eased, found := 0, 0
	eachYard(1500, func(r *rand.Rand, y []api.BarrelCask, months int) {
		better := easier(r, y)
		_, e := barrel.Keep(y, months)
		switch _, f := barrel.Keep(better, months); {
		case e == api.OK && f != api.OK:
			t.Fatalf("%v: Keep for %d: %d; %v: %d", y, months, e, better, f)
		case e != api.OK && f == api.OK:
			found++
		}
		for _, plan := range goodPlans(t, r, y, months) {
			if months > 0 && !keeps(t, y, plan[:months-1]) {
				t.Fatalf("%v: %v keeps, but not without its last month", y, plan)
			}
			if !keeps(t, better, plan) {
				t.Fatalf("%v: %v keeps, but not %v", y, plan, better)
			}
			eased++
		}
		if e == api.OK && months > 0 {
			if _, e := barrel.Keep(y, months-1); e != api.OK {
				t.Fatalf("%v: Keep for %d months, but not for one fewer: %d", y, months, e)
			}
		}
	})
	if eased < 1000 || found < 50 {
		t.Errorf("only %d plans; an easier yard can be kept only %d times", eased, found)
	}
}

// told returns a book with one count of a move alone.
func told(b api.BarrelBook, i, n int) api.BarrelBook {
	b.Moves = slices.Clone(b.Moves)
	b.Moves[i].Count = to(n, n)
	return b
}

func TestTheBalance(t *testing.T) { // P6.10
	within, ends, beyond := 0, 0, 0
	eachBook(1500, func(_ *rand.Rand, b api.BarrelBook, counts []int) {
		l, e := barrel.Balance(b)
		if counts != nil {
			if e != api.OK || len(l) != len(counts) {
				t.Fatalf("%v: Balance %v, %d; %v balance", b, l, e, counts)
			}
			for i, n := range counts {
				if n < l[i].Low || n > l[i].High {
					t.Fatalf("%v: Balance %v; %v balance", b, l, counts)
				}
				if n > l[i].Low && n < l[i].High {
					within++
				}
			}
		}
		for i, s := range l {
			for _, n := range []int{s.Low, s.High} {
				same, e := barrel.Balance(told(b, i, n))
				if e != api.OK || same[i] != to(n, n) {
					t.Fatalf("%v: Balance %v; with %d of the move %d %v, %d", b, l, n, i, same, e)
				}
				ends++
			}
			for _, n := range []int{s.Low - 1, s.High + 1} {
				if n < b.Moves[i].Count.Low || n > b.Moves[i].Count.High {
					continue
				}
				if same, e := barrel.Balance(told(b, i, n)); len(same) != 0 || e != api.ErrBarrelFalse {
					t.Fatalf("%v: Balance %v; with %d of the move %d %v, %d", b, l, n, i, same, e)
				}
				beyond++
			}
		}
	})
	if within < 500 || ends < 2000 || beyond < 1000 {
		t.Errorf("only %d counts between, %d ends, %d beyond", within, ends, beyond)
	}
}

// wider returns a book with some wider counts.
func wider(r *rand.Rand, b api.BarrelBook) api.BarrelBook {
	b.Moves = slices.Clone(b.Moves)
	by := 1 + r.IntN(200)
	for i := range b.Moves {
		if s := &b.Moves[i].Count; r.IntN(2) == 0 {
			s.Low, s.High = between(r, max(0, s.Low-by), s.Low), between(r, s.High, min(s.High+by, api.BarrelCount))
		}
	}
	return b
}

func TestTheProof(t *testing.T) { // P6.11
	more, wide := 0, 0
	eachBook(2000, func(r *rand.Rand, b api.BarrelBook, _ []int) {
		l, e := barrel.Balance(b)
		some := false
		for set := range 1 << b.Stations {
			is, e := barrel.Proves(b, set)
			if e != api.OK {
				t.Fatalf("%v: Proves of %d: %d", b, set, e)
			}
			some = some || is
		}
		set, f := barrel.Proof(b)
		if some != (e == api.ErrBarrelFalse) || some != (f == api.OK) {
			t.Fatalf("%v: Balance %v, %d; Proof %d, %d; some set proves: %v", b, l, e, set, f, some)
		}
		w := wider(r, b)
		m, g := barrel.Balance(w)
		switch {
		case e == api.OK && g != api.OK:
			t.Fatalf("%v: Balance %d; %v: %d", b, e, w, g)
		case e != api.OK && g == api.OK:
			more++
		}
		for i, s := range l {
			if m[i].Low > s.Low || m[i].High < s.High {
				t.Fatalf("%v: Balance %v; %v: %v", b, l, w, m)
			}
			if m[i] != s {
				wide++
			}
		}
	})
	if more < 50 || wide < 500 {
		t.Errorf("only %d books balance when they are wider, %d counts are wider", more, wide)
	}
}
