package nets_test

import (
	"math/rand/v2"
	"slices"
	"testing"

	"drifter/api"
	"drifter/nets"
)

// pairOf is a fleet of two nets of another one, so that all is told of these alone.
func pairOf(f api.NetsFleet, first, second int) api.NetsFleet {
	f.Nets = []api.NetsShot{f.Nets[first], f.Nets[second]}
	return f
}

func TestNetsFoulOnlyIfTheyCan(t *testing.T) { // P2.6
	fouled := 0
	each(400, func(r *rand.Rand, f api.NetsFleet) {
		can, e := nets.Can(f)
		for range 20 {
			told := anyTruth(r, f)
			l := foulsOf(f, told)
			if len(l) > 0 {
				fouled++
			}
			for _, x := range l {
				if e != api.OK || x.Hour < can.Hour {
					t.Errorf("%v, %v: %v fouls, but the first that can is %v, %d", f, told, x, can, e)
				}
				first, e := nets.Can(pairOf(f, x.First, x.Second))
				if e != api.OK || first.Hour > x.Hour {
					t.Errorf("%v, %v: %v fouls, but the pair first can %v, %d", f, told, x, first, e)
				}
			}
		}
	})
	if fouled < 100 {
		t.Errorf("only %d truths foul", fouled)
	}
}

// twice has all numbers doubled: so a truth of it that is told is one of halves of the first fleet.
func twice(f api.NetsFleet) api.NetsFleet {
	f = copyOf(f)
	for _, s := range spansOf(f) {
		s.Low, s.High = 2*s.Low, 2*s.High
	}
	f.Gap *= 2
	for i := range f.Nets {
		n := &f.Nets[i]
		n.At, n.Long = at(2*n.At.East, 2*n.At.North), 2*n.Long
	}
	return f
}

func TestTruthsOfHalves(t *testing.T) { // P2.2, P2.6, P2.7
	each(60, func(r *rand.Rand, f api.NetsFleet) {
		f = tell(r, f, 30)
		halves := twice(f)
		want, wanted := firstOf(possible(halves))
		if foul, e := nets.Can(f); foul != want || e != wanted {
			t.Errorf("%v: Can %v, %d; with halves %v, %d", f, foul, e, want, wanted)
		}
		for told := range truths(halves) {
			for _, x := range meetings(f) {
				east, north, e := nets.Apart(f, x.First, x.Second, x.Hour)
				if e != api.OK {
					continue
				}
				a, b := placeOf(halves, told, x.First, x.Hour), placeOf(halves, told, x.Second, x.Hour)
				if d := a.East - b.East; d < 2*east.Low || d > 2*east.High {
					t.Errorf("%v, %v: %v are %d halves apart, not %v", f, told, x, d, east)
				}
				if d := a.North - b.North; d < 2*north.Low || d > 2*north.High {
					t.Errorf("%v, %v: %v are %d halves apart, not %v", f, told, x, d, north)
				}
			}
		}
	})
}

func TestApartIsSoInTruths(t *testing.T) { // P2.7
	each(150, func(r *rand.Rand, f api.NetsFleet) {
		f = tell(r, f, 300)
		for _, x := range meetings(f) {
			east, north, e := nets.Apart(f, x.First, x.Second, x.Hour)
			if lie := isLying(f, x.First, x.Hour) && isLying(f, x.Second, x.Hour); !lie {
				if e != api.ErrNetsAsk {
					t.Errorf("%v: %v do not lie together: %d", f, x, e)
				}
				continue
			}
			var toEast, toNorth []int
			for told := range truths(f) {
				a, b := placeOf(f, told, x.First, x.Hour), placeOf(f, told, x.Second, x.Hour)
				toEast, toNorth = append(toEast, a.East-b.East), append(toNorth, a.North-b.North)
			}
			if east != to(slices.Min(toEast), slices.Max(toEast)) || north != to(slices.Min(toNorth), slices.Max(toNorth)) || e != api.OK {
				t.Errorf("%v: %v are apart by %v, %v, %d", f, x, east, north, e)
			}
			back, down, _ := nets.Apart(f, x.Second, x.First, x.Hour)
			if back != to(-east.High, -east.Low) || down != to(-north.High, -north.Low) {
				t.Errorf("%v: %v are apart by %v, %v, and back by %v, %v", f, x, east, north, back, down)
			}
		}
	})
}

func TestTideCarriesBothAlike(t *testing.T) { // P2.7
	each(300, func(r *rand.Rand, f api.NetsFleet) {
		for _, x := range meetings(f) {
			east, north, e := nets.Apart(f, x.First, x.Second, x.Hour)
			later, farther, e2 := nets.Apart(f, x.First, x.Second, x.Hour+1)
			if e != api.OK || e2 != api.OK {
				continue
			}
			a, b := f.Nets[x.First], f.Nets[x.Second]
			if later != to(east.Low+a.SlipEast.Low-b.SlipEast.High, east.High+a.SlipEast.High-b.SlipEast.Low) || farther != to(north.Low+a.SlipNorth.Low-b.SlipNorth.High, north.High+a.SlipNorth.High-b.SlipNorth.Low) {
				t.Errorf("%v: %v are apart by %v, %v, an hour later by %v, %v", f, x, east, north, later, farther)
			}
			g := copyOf(f)
			g.East[x.Hour%len(g.East)], g.North[x.Hour%len(g.North)] = anySpan(r, 9), anySpan(r, 9)
			if other, aside, _ := nets.Apart(g, x.First, x.Second, x.Hour+1); other != later || aside != farther {
				t.Errorf("%v: %v are apart by %v, %v, with another tide of their hour by %v, %v", f, x, later, farther, other, aside)
			}
		}
	})
}

// canWith reports whether a pair that has a net can foul, by what Can says of each pair.
func canWith(f api.NetsFleet, net int) bool {
	for other := range f.Nets {
		if other == net {
			continue
		}
		if _, e := nets.Can(pairOf(f, net, other)); e == api.OK {
			return true
		}
	}
	return false
}

func TestShiftIsLeast(t *testing.T) { // P2.8
	moved := 0
	each(600, func(r *rand.Rand, f api.NetsFleet) {
		net := r.IntN(len(f.Nets))
		by, e := nets.Shift(f, net, api.NetsMove)
		if e != api.OK {
			t.Fatalf("%v: Shift of %d: %d", f, net, e)
		}
		g := copyOf(f)
		for n := range by + 1 {
			g.Nets[net].At.East = f.Nets[net].At.East + n
			if can := canWith(g, net); can == (n == by) {
				t.Errorf("%v: Shift of %d is %d, but by %d: %v", f, net, by, n, can)
			}
		}
		if by > 0 {
			moved++
			if k, e := nets.Shift(f, net, by-1); k != 0 || e != api.ErrNone {
				t.Errorf("%v: Shift of %d by less than %d: %d, %d", f, net, by, k, e)
			}
		}
		if k, e := nets.Shift(f, net, by); k != by || e != api.OK {
			t.Errorf("%v: Shift of %d by at most %d: %d, %d", f, net, by, k, e)
		}
	})
	if moved < 50 {
		t.Errorf("only %d nets must be shot farther", moved)
	}
}

func TestNarrowerSpansFoulNoMore(t *testing.T) { // P2.9
	each(500, func(r *rand.Rand, f api.NetsFleet) {
		g := copyOf(f)
		for _, s := range spansOf(g) {
			s.Low = between(r, s.Low, s.High)
			s.High = between(r, s.Low, s.High)
		}
		g.Gap = between(r, 0, f.Gap)
		for first := range f.Nets {
			for second := range first {
				foul, e := nets.Can(pairOf(f, first, second))
				narrow, e2 := nets.Can(pairOf(g, first, second))
				if e2 == api.OK && (e != api.OK || foul.Hour > narrow.Hour) {
					t.Errorf("%v: of %d and %d Can is %v, %d, and %v in %v", f, first, second, foul, e, narrow, g)
				}
			}
		}
		net := r.IntN(len(f.Nets))
		by, _ := nets.Shift(f, net, api.NetsMove)
		if k, _ := nets.Shift(g, net, api.NetsMove); k > by {
			t.Errorf("%v: Shift of %d is %d, and %d in %v", f, net, by, k, g)
		}
		if len(f.Nets) > 1 {
			lessNets(t, f, net)
		}
	})
}

// lessNets compares a fleet with what it is without a net.
func lessNets(t *testing.T, f api.NetsFleet, net int) {
	t.Helper()
	g := copyOf(f)
	g.Nets = slices.Delete(g.Nets, net, net+1)
	foul, e := nets.Can(f)
	less, e2 := nets.Can(g)
	for _, number := range []*int{&less.First, &less.Second} {
		if *number >= net {
			*number++
		}
	}
	switch {
	case e == api.OK && foul.First != net && foul.Second != net:
		if less != foul || e2 != api.OK {
			t.Errorf("%v: Can %v, without the net %d %v, %d", f, foul, net, less, e2)
		}
	case e2 == api.OK && (e != api.OK || less.Hour < foul.Hour):
		t.Errorf("%v: Can %v, %d, without the net %d %v", f, foul, e, net, less)
	}
}

func TestAllIsShotElsewhere(t *testing.T) { // P2.11
	each(400, func(r *rand.Rand, f api.NetsFleet) {
		far, told := at(between(r, -9000, 9000), between(r, -9000, 9000)), anyTruth(r, f)
		g := copyOf(f)
		for i := range g.Nets {
			g.Nets[i].At = at(g.Nets[i].At.East+far.East, g.Nets[i].At.North+far.North)
		}
		for net := range f.Nets {
			for hour := range len(f.East) + 1 {
				where, e := nets.Lies(f, told, net, hour)
				there, e2 := nets.Lies(g, told, net, hour)
				if e != e2 || e == api.OK && there != at(where.East+far.East, where.North+far.North) {
					t.Errorf("%v: %d lies at %v, %d; by %v farther at %v, %d", f, net, where, e, far, there, e2)
				}
			}
			by, e := nets.Shift(f, net, 20)
			if k, e2 := nets.Shift(g, net, 20); k != by || e2 != e {
				t.Errorf("%v: Shift of %d: %d, %d; by %v farther %d, %d", f, net, by, e, far, k, e2)
			}
		}
		foul, e := nets.Fouls(f, told)
		if x, e2 := nets.Fouls(g, told); x != foul || e2 != e {
			t.Errorf("%v: Fouls %v, %d; by %v farther %v, %d", f, foul, e, far, x, e2)
		}
		can, e := nets.Can(f)
		if x, e2 := nets.Can(g); x != can || e2 != e {
			t.Errorf("%v: Can %v, %d; by %v farther %v, %d", f, can, e, far, x, e2)
		}
		for _, x := range meetings(f) {
			east, north, e := nets.Apart(f, x.First, x.Second, x.Hour)
			if a, b, e2 := nets.Apart(g, x.First, x.Second, x.Hour); a != east || b != north || e2 != e {
				t.Errorf("%v: %v are apart by %v, %v; by %v farther by %v, %v", f, x, east, north, far, a, b)
			}
		}
	})
}
