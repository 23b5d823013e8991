package nets_test

import (
	"math"
	"math/rand/v2"
	"reflect"
	"slices"
	"testing"

	"drifter/api"
	"drifter/nets"
)

func to(low, high int) api.Span { return api.Span{Low: low, High: high} }

func at(east, north int) api.NetsSpot { return api.NetsSpot{East: east, North: north} }

// fleet and distant are those of the chapter's examples.
func fleet() api.NetsFleet {
	return api.NetsFleet{
		East:  []api.Span{to(10, 20), to(10, 20), to(10, 20)},
		North: make([]api.Span, 3),
		Gap:   5,
		Nets: []api.NetsShot{
			{Long: 100, Along: api.NetsNorth, Haul: 3},
			{At: at(25, 0), Long: 100, Along: api.NetsNorth, Shot: 1, Haul: 3},
		},
	}
}

func distant() api.NetsFleet {
	f := fleet()
	f.Nets[1].At.East, f.Nets[1].SlipEast = 50, to(-4, 0)
	return f
}

// tide is a truth of the examples' fleets in which nothing slips.
func tide(east ...int) api.NetsTruth {
	return api.NetsTruth{East: east, North: []int{0, 0, 0}, SlipEast: []int{0, 0}, SlipNorth: []int{0, 0}}
}

// still is a sea without a tide, in which nets lie from the first hour to the last one, without a gap.
func still(hours int, shot ...api.NetsShot) api.NetsFleet {
	for i := range shot {
		shot[i].Haul = hours
	}
	return api.NetsFleet{East: make([]api.Span, hours), North: make([]api.Span, hours), Nets: shot}
}

// most is a fleet that is as large as can be, all its numbers at one end of what they can be.
func most(sign int) api.NetsFleet {
	end := func(n int) api.Span { return to(-n, n) }
	f := api.NetsFleet{Gap: api.NetsGap}
	for range api.NetsHours {
		f.East, f.North = append(f.East, end(api.NetsFlow)), append(f.North, end(api.NetsFlow))
	}
	for i := range api.NetsNets {
		f.Nets = append(f.Nets, api.NetsShot{At: at(sign*api.NetsPlace, -sign*api.NetsPlace), Long: api.NetsLong, Along: i % 2, Shot: 23 * (i / 5), Haul: api.NetsHours, SlipEast: end(api.NetsSlip), SlipNorth: end(api.NetsSlip)})
	}
	return f
}

type errnos struct{ check, lies, fouls, apart, can, shift api.Errno }

// call calls every function with a fleet, and returns the errors; with an error, everything else must be zero (R2, P1).
func call(t *testing.T, f api.NetsFleet, told api.NetsTruth, net, other, hour, by int) errnos {
	t.Helper()
	where, e1 := nets.Lies(f, told, net, hour)
	foul, e2 := nets.Fouls(f, told)
	east, north, e3 := nets.Apart(f, net, other, hour)
	can, e4 := nets.Can(f)
	shift, e5 := nets.Shift(f, net, by)
	if e1 != api.OK && where != at(0, 0) || e2 != api.OK && foul != (api.NetsFoul{}) || e3 != api.OK && (east != to(0, 0) || north != to(0, 0)) || e4 != api.OK && can != (api.NetsFoul{}) || e5 != api.OK && shift != 0 {
		t.Errorf("results besides the errors %d %d %d %d %d: %v, %v, %v %v, %v, %d", e1, e2, e3, e4, e5, where, foul, east, north, can, shift)
	}
	return errnos{nets.Check(f), e1, e2, e3, e4, e5}
}

func TestFleetsThatAreValid(t *testing.T) { // P2.1
	short := fleet()
	short.Nets[1].Haul = 1
	for i, f := range []api.NetsFleet{fleet(), distant(), short, most(1), most(-1), still(1, api.NetsShot{}), still(24, make([]api.NetsShot, 6)...)} {
		if e := nets.Check(f); e != api.OK {
			t.Errorf("valid fleet %d: %d", i, e)
		}
	}
}

func TestFleetsThatAreWrong(t *testing.T) { // P2.1 to P2.3
	for i, change := range []func(*api.NetsFleet){
		func(f *api.NetsFleet) { f.East, f.North = nil, nil },
		func(f *api.NetsFleet) { *f = still(25, f.Nets...) },
		func(f *api.NetsFleet) { f.East = f.East[:2] },
		func(f *api.NetsFleet) { f.North = f.North[:2] },
		func(f *api.NetsFleet) { f.North = nil },
		func(f *api.NetsFleet) { f.East = append(f.East, to(0, 0)) },
		func(f *api.NetsFleet) { f.East[1] = to(1, 0) },
		func(f *api.NetsFleet) { f.East[0] = to(-201, 0) },
		func(f *api.NetsFleet) { f.East[2] = to(0, 201) },
		func(f *api.NetsFleet) { f.North[1] = to(1, 0) },
		func(f *api.NetsFleet) { f.North[0] = to(-201, 0) },
		func(f *api.NetsFleet) { f.North[2] = to(0, 201) },
		func(f *api.NetsFleet) { f.East[0] = to(math.MinInt, math.MaxInt) },
		func(f *api.NetsFleet) { f.Gap = -1 },
		func(f *api.NetsFleet) { f.Gap = 501 },
		func(f *api.NetsFleet) { f.Nets = nil },
		func(f *api.NetsFleet) { f.Nets = make([]api.NetsShot, 7) },
		func(f *api.NetsFleet) { f.Nets[0].At.East = -10001 },
		func(f *api.NetsFleet) { f.Nets[0].At.East = 10001 },
		func(f *api.NetsFleet) { f.Nets[1].At.North = -10001 },
		func(f *api.NetsFleet) { f.Nets[1].At.North = 10001 },
		func(f *api.NetsFleet) { f.Nets[1].At.North = math.MinInt },
		func(f *api.NetsFleet) { f.Nets[0].Long = -1 },
		func(f *api.NetsFleet) { f.Nets[1].Long = 2001 },
		func(f *api.NetsFleet) { f.Nets[1].Along = -1 },
		func(f *api.NetsFleet) { f.Nets[0].Along = 2 },
		func(f *api.NetsFleet) { f.Nets[0].Shot = -1 },
		func(f *api.NetsFleet) { f.Nets[1].Shot = 3 },
		func(f *api.NetsFleet) { f.Nets[1].Haul = 0 },
		func(f *api.NetsFleet) { f.Nets[1].Haul = 4 },
		func(f *api.NetsFleet) { f.Nets[0].SlipEast = to(1, 0) },
		func(f *api.NetsFleet) { f.Nets[0].SlipEast = to(-51, 0) },
		func(f *api.NetsFleet) { f.Nets[0].SlipEast = to(0, 51) },
		func(f *api.NetsFleet) { f.Nets[1].SlipNorth = to(1, 0) },
		func(f *api.NetsFleet) { f.Nets[1].SlipNorth = to(-51, 0) },
		func(f *api.NetsFleet) { f.Nets[1].SlipNorth = to(0, 51) },
	} {
		f := fleet()
		change(&f)
		// the fleet's error comes before that of the truth, and before that of the question
		for _, told := range []api.NetsTruth{tide(10, 10, 10), {}} {
			if e := call(t, f, told, -1, -1, -1, -1); e != (errnos{20, 20, 20, 20, 20, 20}) {
				t.Errorf("the wrong fleet %d: %v", i, e)
			}
		}
	}
}

func TestTruthsThatAreWrong(t *testing.T) { // P2.1
	for i, change := range []func(*api.NetsTruth){
		func(x *api.NetsTruth) { *x = api.NetsTruth{} },
		func(x *api.NetsTruth) { x.East = x.East[:2] },
		func(x *api.NetsTruth) { x.East = append(x.East, 10) },
		func(x *api.NetsTruth) { x.North = x.North[:2] },
		func(x *api.NetsTruth) { x.North = append(x.North, 0) },
		func(x *api.NetsTruth) { x.SlipEast = x.SlipEast[:1] },
		func(x *api.NetsTruth) { x.SlipEast = append(x.SlipEast, 0) },
		func(x *api.NetsTruth) { x.SlipNorth = x.SlipNorth[:1] },
		func(x *api.NetsTruth) { x.SlipNorth = append(x.SlipNorth, 0) },
		func(x *api.NetsTruth) { x.East[0] = 9 },
		func(x *api.NetsTruth) { x.East[2] = 21 },
		func(x *api.NetsTruth) { x.North[1] = -1 },
		func(x *api.NetsTruth) { x.North[2] = 1 },
		func(x *api.NetsTruth) { x.SlipEast[1] = -5 },
		func(x *api.NetsTruth) { x.SlipEast[1] = 1 },
		func(x *api.NetsTruth) { x.SlipEast[0] = -1 }, // it is the other net that slips
		func(x *api.NetsTruth) { x.SlipNorth[0] = math.MinInt },
		func(x *api.NetsTruth) { x.SlipNorth[1] = 1 },
	} {
		told := tide(10, 20, 15)
		change(&told)
		// before the error of the question
		for _, net := range []int{0, 2, -1} {
			e := call(t, distant(), told, net, 1-net, 2, 9)
			if e.lies != api.ErrNetsTruth || e.fouls != api.ErrNetsTruth || e.check != api.OK || e.can != api.ErrNone {
				t.Errorf("the wrong truth %d: %v", i, e)
			}
		}
	}
}

func TestLies(t *testing.T) { // P2.1
	slips := tide(10, 12, 14)
	slips.SlipEast = []int{0, -3}
	aside := distant()
	aside.North[1], aside.Nets[0].SlipNorth = to(-7, 0), to(0, 2)
	drawn := tide(20, 10, 10)
	drawn.North, drawn.SlipNorth = []int{0, -6, 0}, []int{2, 0}
	for i, x := range []struct {
		f         api.NetsFleet
		told      api.NetsTruth
		net, hour int
		want      api.NetsSpot
		e         api.Errno
	}{
		{fleet(), tide(10, 12, 14), 0, 0, at(0, 0), api.OK},
		{fleet(), tide(10, 12, 14), 0, 1, at(10, 0), api.OK},
		{fleet(), tide(10, 12, 14), 0, 3, at(36, 0), api.OK},
		{fleet(), tide(10, 12, 14), 1, 1, at(25, 0), api.OK},
		{fleet(), tide(10, 12, 14), 1, 3, at(51, 0), api.OK},
		{distant(), slips, 0, 3, at(36, 0), api.OK},
		{distant(), slips, 1, 1, at(50, 0), api.OK}, // it slips from its shot on
		{distant(), slips, 1, 3, at(70, 0), api.OK},
		{aside, drawn, 0, 3, at(40, 0), api.OK},
		{aside, drawn, 1, 3, at(70, -6), api.OK},
		{fleet(), tide(10, 12, 14), 1, 0, at(0, 0), api.ErrNetsAsk},
		{fleet(), tide(10, 12, 14), 0, -1, at(0, 0), api.ErrNetsAsk},
		{fleet(), tide(10, 12, 14), 0, 4, at(0, 0), api.ErrNetsAsk},
		{fleet(), tide(10, 12, 14), -1, 1, at(0, 0), api.ErrNetsAsk},
		{fleet(), tide(10, 12, 14), 2, 1, at(0, 0), api.ErrNetsAsk},
		{fleet(), tide(10, 12, 14), math.MaxInt, 1, at(0, 0), api.ErrNetsAsk},
		{fleet(), tide(10, 12, 14), 0, math.MinInt, at(0, 0), api.ErrNetsAsk},
	} {
		if where, e := nets.Lies(x.f, x.told, x.net, x.hour); where != x.want || e != x.e {
			t.Errorf("Lies %d: %v, %d", i, where, e)
		}
	}
}

func TestFouls(t *testing.T) { // P2.1
	four := still(2, make([]api.NetsShot, 4)...)
	four.Nets[0].At = at(9, 9)
	late := copyOf(four)
	late.Nets[1].Shot, late.Nets[2].Shot, late.Nets[2].Haul = 1, 1, 1
	early := copyOf(late)
	early.Nets[3].Haul = 0
	for i, x := range []struct {
		f    api.NetsFleet
		told api.NetsTruth
		want api.NetsFoul
		e    api.Errno
	}{
		{fleet(), tide(10, 10, 10), api.NetsFoul{}, api.ErrNone},
		{fleet(), tide(19, 20, 20), api.NetsFoul{}, api.ErrNone},
		{fleet(), tide(20, 10, 10), api.NetsFoul{Hour: 1, First: 0, Second: 1}, api.OK},
		{four, truthOf(four, make([]int, 12)), api.NetsFoul{Hour: 0, First: 1, Second: 2}, api.OK},
		{late, truthOf(late, make([]int, 12)), api.NetsFoul{Hour: 1, First: 1, Second: 2}, api.OK},
		{early, truthOf(early, make([]int, 12)), api.NetsFoul{Hour: 1, First: 1, Second: 2}, api.OK},
	} {
		if foul, e := nets.Fouls(x.f, x.told); foul != x.want || e != x.e {
			t.Errorf("Fouls %d: %v, %d", i, foul, e)
		}
	}
}

func TestApart(t *testing.T) { // P2.2
	for i, x := range []struct {
		f                   api.NetsFleet
		first, second, hour int
		east, north         api.Span
		e                   api.Errno
	}{
		{fleet(), 0, 1, 1, to(-15, -5), to(0, 0), api.OK},
		{fleet(), 0, 1, 3, to(-15, -5), to(0, 0), api.OK},
		{fleet(), 1, 0, 2, to(5, 15), to(0, 0), api.OK},
		{distant(), 0, 1, 1, to(-40, -30), to(0, 0), api.OK},
		{distant(), 0, 1, 3, to(-40, -22), to(0, 0), api.OK},
		{distant(), 1, 0, 3, to(22, 40), to(0, 0), api.OK},
		{most(1), 0, 1, 24, to(-2400, 2400), to(-2400, 2400), api.OK},
		// 23 tides of 200, and slips of 24 hours and of one
		{most(-1), 0, 5, 24, to(-5850, 5850), to(-5850, 5850), api.OK},
		{fleet(), 0, 0, 1, to(0, 0), to(0, 0), api.ErrNetsAsk},
		{fleet(), 0, 1, 0, to(0, 0), to(0, 0), api.ErrNetsAsk},
		{fleet(), 1, 0, 0, to(0, 0), to(0, 0), api.ErrNetsAsk},
		{fleet(), 0, 1, 4, to(0, 0), to(0, 0), api.ErrNetsAsk},
		{fleet(), 0, 2, 1, to(0, 0), to(0, 0), api.ErrNetsAsk},
		{fleet(), -1, 1, 1, to(0, 0), to(0, 0), api.ErrNetsAsk},
		{fleet(), math.MinInt, math.MaxInt, math.MaxInt, to(0, 0), to(0, 0), api.ErrNetsAsk},
	} {
		if east, north, e := nets.Apart(x.f, x.first, x.second, x.hour); east != x.east || north != x.north || e != x.e {
			t.Errorf("Apart %d: %v, %v, %d", i, east, north, e)
		}
	}
}

// across is a net that lies to the east from 0 0, and one that lies to the north from a place, without a gap.
func across(place api.NetsSpot) api.NetsFleet {
	return still(2, api.NetsShot{Long: 10}, api.NetsShot{At: place, Long: 10, Along: api.NetsNorth})
}

func TestCan(t *testing.T) { // P2.2
	turn := across(at(5, -5)) // one is hauled in the hour in which the other one is shot
	turn.Nets[0].Haul, turn.Nets[1].Shot = 1, 1
	missed := copyOf(turn)
	missed.Nets[0].Haul = 0
	gap := across(at(14, -13))
	gap.Gap = 4
	wide := across(at(15, 0))
	wide.Gap = 4
	last := across(at(40, 0))
	last.Nets[1].SlipEast = to(-15, 0)
	// to the east they can foul in the first hour alone, to the north in the last one alone
	passing := across(at(0, 20))
	passing.Nets[1].SlipEast, passing.Nets[1].SlipNorth = to(-20, -20), to(-10, -10)
	for i, x := range []struct {
		f    api.NetsFleet
		want api.NetsFoul
		e    api.Errno
	}{
		{fleet(), api.NetsFoul{Hour: 1, First: 0, Second: 1}, api.OK},
		{distant(), api.NetsFoul{}, api.ErrNone},
		{across(at(5, -5)), api.NetsFoul{Second: 1}, api.OK},
		{across(at(10, 0)), api.NetsFoul{Second: 1}, api.OK},
		{across(at(0, -10)), api.NetsFoul{Second: 1}, api.OK},
		{across(at(11, 0)), api.NetsFoul{}, api.ErrNone},
		{across(at(0, -11)), api.NetsFoul{}, api.ErrNone},
		{across(at(-1, 0)), api.NetsFoul{}, api.ErrNone},
		{across(at(0, 1)), api.NetsFoul{}, api.ErrNone},
		{gap, api.NetsFoul{Second: 1}, api.OK},
		{wide, api.NetsFoul{}, api.ErrNone},
		{turn, api.NetsFoul{Hour: 1, Second: 1}, api.OK},
		{missed, api.NetsFoul{}, api.ErrNone},
		{last, api.NetsFoul{Hour: 2, Second: 1}, api.OK},
		{passing, api.NetsFoul{}, api.ErrNone},
		{still(24, api.NetsShot{}), api.NetsFoul{}, api.ErrNone},
		{most(1), api.NetsFoul{Second: 1}, api.OK},
	} {
		if foul, e := nets.Can(x.f); foul != x.want || e != x.e {
			t.Errorf("Can %d: %v, %d", i, foul, e)
		}
	}
}

func TestShift(t *testing.T) { // P2.3
	// behind the one net lies another one, with room for none between, or for one
	row := still(1, api.NetsShot{}, api.NetsShot{Long: 9}, api.NetsShot{At: at(10, 0), Long: 9})
	gap := copyOf(row)
	gap.Nets[2].At.East = 11
	edge := still(1, api.NetsShot{At: at(10000, 0), Long: 2000}, api.NetsShot{At: at(10000, 0), Long: 2000})
	edge.Gap = 500
	north := copyOf(edge)
	north.Nets[1].At.North = 501
	alike := most(1) // all are shot at once
	alike.Nets = alike.Nets[:5]
	pairs := still(1, api.NetsShot{}, api.NetsShot{}, api.NetsShot{At: at(9, 0)})
	for i, x := range []struct {
		f               api.NetsFleet
		net, most, want int
		e               api.Errno
	}{
		{fleet(), 1, 100, 1, api.OK}, {fleet(), 1, 1, 1, api.OK}, {fleet(), 1, 0, 0, api.ErrNone},
		{fleet(), 0, 100, 21, api.OK}, {fleet(), 0, 21, 21, api.OK}, {fleet(), 0, 20, 0, api.ErrNone},
		{distant(), 0, 5, 0, api.OK}, {distant(), 0, 0, 0, api.OK},
		{row, 0, 99, 20, api.OK}, {gap, 0, 99, 10, api.OK}, {row, 2, 99, 0, api.OK},
		{edge, 0, 5000, 2501, api.OK}, {edge, 0, 2500, 0, api.ErrNone}, {north, 0, 0, 0, api.OK},
		// what other nets do with each other is nothing to it
		{pairs, 2, 0, 0, api.OK}, {pairs, 0, 99, 1, api.OK},
		{alike, 0, 5000, 4901, api.OK}, {alike, 0, 4900, 0, api.ErrNone}, {most(1), 0, 5000, 0, api.ErrNone}, {most(1), 5, 5000, 0, api.ErrNone},
		{fleet(), 2, 5, 0, api.ErrNetsAsk}, {fleet(), -1, 5, 0, api.ErrNetsAsk},
		{fleet(), 0, 5001, 0, api.ErrNetsAsk}, {fleet(), 0, -1, 0, api.ErrNetsAsk},
		{fleet(), math.MinInt, 5, 0, api.ErrNetsAsk}, {fleet(), 0, math.MaxInt, 0, api.ErrNetsAsk},
	} {
		if by, e := nets.Shift(x.f, x.net, x.most); by != x.want || e != x.e {
			t.Errorf("Shift %d: %d, %d", i, by, e)
		}
	}
}

// Everything is as by the enumeration of all truths.
func TestAgainstAllTruths(t *testing.T) { // P2.1, P2.2
	none, some := 0, 0
	each(300, func(r *rand.Rand, f api.NetsFleet) {
		f = tell(r, f, 600)
		for told := range truths(f) {
			want, wanted := firstOf(foulsOf(f, told))
			if foul, e := nets.Fouls(f, told); foul != want || e != wanted {
				t.Fatalf("%v, %v: Fouls %v, %d; not %v, %d", f, told, foul, e, want, wanted)
			}
		}
		told := anyTruth(r, f)
		for net := range f.Nets {
			for hour := range len(f.East) + 1 {
				where, e := nets.Lies(f, told, net, hour)
				if lies := isLying(f, net, hour); lies && where != placeOf(f, told, net, hour) || lies != (e == api.OK) {
					t.Errorf("%v, %v: Lies of %d in %d: %v, %d", f, told, net, hour, where, e)
				}
			}
		}
		want, wanted := firstOf(possible(f))
		if foul, e := nets.Can(f); foul != want || e != wanted {
			t.Errorf("%v: Can %v, %d; not %v, %d", f, foul, e, want, wanted)
		}
		if wanted == api.OK {
			some++
		} else {
			none++
		}
	})
	if none < 50 || some < 50 {
		t.Errorf("%d fleets can foul, %d cannot: one kind is hardly tried", some, none)
	}
}

func TestShiftAgainstAllTruths(t *testing.T) { // P2.3
	each(60, func(r *rand.Rand, f api.NetsFleet) {
		f = tell(r, f, 40)
		net, most := r.IntN(len(f.Nets)), between(r, 0, 25)
		want, wanted := shiftOf(f, net, most)
		if by, e := nets.Shift(f, net, most); by != want || e != wanted {
			t.Errorf("%v: Shift of %d by at most %d: %d, %d; not %d, %d", f, net, most, by, e, want, wanted)
		}
	})
}

// Arguments are as they were, and a nil list is an empty one.
func TestMemoryOfFleets(t *testing.T) { // P2.5, P2, R3
	f, told := distant(), tide(20, 10, 15)
	told.SlipEast[1] = -4
	ask := func() []any {
		a, b := nets.Lies(f, told, 1, 3)
		c, d := nets.Fouls(f, told)
		g, h, i := nets.Apart(f, 1, 0, 3)
		j, k := nets.Can(f)
		l, m := nets.Shift(f, 1, 5000)
		return []any{nets.Check(f), a, b, c, d, g, h, i, j, k, l, m}
	}
	want := ask()
	if !reflect.DeepEqual(f, distant()) || !slices.Equal(told.East, []int{20, 10, 15}) || !slices.Equal(told.SlipEast, []int{0, -4}) || !slices.Equal(told.North, []int{0, 0, 0}) || !slices.Equal(told.SlipNorth, []int{0, 0}) {
		t.Error("an argument has changed")
	}
	if got := ask(); !reflect.DeepEqual(got, want) {
		t.Errorf("called again: %v, not %v", got, want)
	}
	empty := api.NetsFleet{East: []api.Span{}, North: []api.Span{}, Nets: []api.NetsShot{}}
	none := api.NetsTruth{East: []int{}, North: []int{}, SlipEast: []int{}, SlipNorth: []int{}}
	if a, b := call(t, empty, none, 0, 0, 0, 0), call(t, api.NetsFleet{}, api.NetsTruth{}, 0, 0, 0, 0); a != b || a.check != api.ErrNets {
		t.Errorf("empty lists: %v, nil ones: %v", a, b)
	}
	if e := call(t, fleet(), none, 0, 1, 1, 0); e.lies != api.ErrNetsTruth || e.fouls != api.ErrNetsTruth {
		t.Errorf("an empty truth: %v", e)
	}
}
