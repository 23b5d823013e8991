package shoal_test

import (
	"math"
	"math/rand/v2"
	"reflect"
	"slices"
	"testing"

	"drifter/api"
	"drifter/shoal"
)

// row is the sea of the chapter's examples, and seen its first reports.
func row() api.ShoalSea {
	return api.ShoalSea{Wide: 4, High: 1, Hours: 3, Drift: []api.ShoalStep{{East: 1}, {}}, Speed: 1}
}

func seen(many int) []api.ShoalReport {
	again := api.ShoalReport{Hour: 1, Cell: 0, Far: 1, There: true}
	return []api.ShoalReport{{Hour: 0, Cell: 0, There: true}, {Hour: 2, Cell: 3, There: true}, again, again, again}[:many]
}

// field is three rows of four cells, with standing water.
func field(hours, speed int) api.ShoalSea {
	return api.ShoalSea{Wide: 4, High: 3, Hours: hours, Drift: make([]api.ShoalStep, hours-1), Speed: speed}
}

// allLand has no track; neither has away, from which the water carries everything.
func allLand() api.ShoalSea {
	s := row()
	s.Land = []int{0, 1, 2, 3}
	return s
}

func away() api.ShoalSea {
	return api.ShoalSea{Wide: 2, High: 2, Hours: 2, Drift: []api.ShoalStep{{East: -2}}}
}

func ocean() api.ShoalSea {
	return api.ShoalSea{Wide: api.ShoalWide, High: api.ShoalHigh, Hours: api.ShoalHours, Drift: make([]api.ShoalStep, api.ShoalHours-1), Speed: api.ShoalSpeed}
}

type errnos struct{ track, least, can, liars, next, sure api.Errno }

// all calls every function with reports, and returns the errors; with an error, everything else must be zero (R2, P1).
func all(t *testing.T, s api.ShoalSea, l []api.ShoalReport, track []int, wrong, hour int, casts []api.ShoalCast) errnos {
	t.Helper()
	var e errnos
	untrue, is, e1 := shoal.IsTrack(s, l, track)
	least, first, e2 := shoal.Least(s, l)
	cells, e3 := shoal.Can(s, l, wrong, hour)
	liars, e4 := shoal.Liars(s, l)
	which, worst, e5 := shoal.Next(s, l, wrong, hour, casts)
	chosen, e6 := shoal.Sure(s, l, wrong, hour, casts)
	e = errnos{e1, e2, e3, e4, e5, e6}
	if e1 != api.OK && (untrue != 0 || is) || e2 != api.OK && (least != 0 || len(first) > 0) || e3 != api.OK && len(cells) > 0 || e4 != api.OK && len(liars) > 0 || e5 != api.OK && (which != 0 || worst != 0) || e6 != api.OK && len(chosen) > 0 {
		t.Errorf("results besides the errors %v: %d %v, %d %v, %v, %v, %d %d, %v", e, untrue, is, least, first, cells, liars, which, worst, chosen)
	}
	return e
}

func TestSeasThatAreValid(t *testing.T) { // P1.1
	most := ocean()
	for i := range most.Drift {
		most.Drift[i] = api.ShoalStep{East: api.ShoalDrift, North: -api.ShoalDrift}
	}
	for i, s := range []api.ShoalSea{
		row(), allLand(), away(), field(2, 0), ocean(), most,
		{Wide: 1, High: 1, Hours: 1},
		{Wide: 1, High: 1, Hours: 1, Land: []int{}, Drift: []api.ShoalStep{}},
		{Wide: 10, High: 8, Hours: 1, Land: []int{0, 79}},
	} {
		if e := shoal.Check(s); e != api.OK {
			t.Errorf("valid sea %d: %d", i, e)
		}
	}
}

func TestSeasThatAreWrong(t *testing.T) { // P1.1
	for i, change := range []func(*api.ShoalSea){
		func(s *api.ShoalSea) { s.Wide = 0 },
		func(s *api.ShoalSea) { s.Wide = 11 },
		func(s *api.ShoalSea) { s.Wide = math.MinInt },
		func(s *api.ShoalSea) { s.Wide = math.MaxInt },
		func(s *api.ShoalSea) { s.High = 0 },
		func(s *api.ShoalSea) { s.High = 9 },
		func(s *api.ShoalSea) { s.Speed = -1 },
		func(s *api.ShoalSea) { s.Speed = 3 },
		func(s *api.ShoalSea) { s.Hours, s.Drift = 0, nil },
		func(s *api.ShoalSea) { s.Hours, s.Drift = 13, make([]api.ShoalStep, 12) },
		func(s *api.ShoalSea) { s.Hours = math.MinInt },
		func(s *api.ShoalSea) { s.Drift = s.Drift[:1] },
		func(s *api.ShoalSea) { s.Drift = append(s.Drift, api.ShoalStep{}) },
		func(s *api.ShoalSea) { s.Drift[0].East = 3 },
		func(s *api.ShoalSea) { s.Drift[1].East = -3 },
		func(s *api.ShoalSea) { s.Drift[0].North = 3 },
		func(s *api.ShoalSea) { s.Drift[1].North = -3 },
		func(s *api.ShoalSea) { s.Land = []int{-1} },
		func(s *api.ShoalSea) { s.Land = []int{4} },
		func(s *api.ShoalSea) { s.Land = []int{1, 1} },
		func(s *api.ShoalSea) { s.Land = []int{0, 2, 1} },
	} {
		s := row()
		change(&s)
		if e := shoal.Check(s); e != api.ErrShoal {
			t.Errorf("Check of the wrong sea %d: %d", i, e)
		}
		if e := all(t, s, seen(2), []int{0, 2, 3}, 0, 0, []api.ShoalCast{{}}); e != (errnos{10, 10, 10, 10, 10, 10}) {
			t.Errorf("the wrong sea %d: %v", i, e)
		}
	}
}

func TestReportsThatAreWrong(t *testing.T) { // P1.1
	for i, wrong := range []api.ShoalReport{
		{Hour: -1}, {Hour: 3}, {Cell: -1}, {Cell: 4}, {Far: -1}, {Far: 10},
		{Hour: math.MaxInt}, {Cell: math.MinInt}, {Far: math.MaxInt},
	} {
		l := append(seen(3), wrong)
		if e := all(t, row(), l, []int{0, 2, 3}, 0, 0, []api.ShoalCast{{}}); e != (errnos{11, 11, 11, 11, 11, 11}) {
			t.Errorf("the wrong report %d: %v", i, e)
		}
	}
	land := row()
	land.Land = []int{1}
	for i, l := range [][]api.ShoalReport{
		nil, {}, make([]api.ShoalReport, api.ShoalReports),
		{{Hour: 2, Cell: 3, Far: 9, There: true}}, {{Cell: 1}}, // a report may be of land
	} {
		if _, _, e := shoal.IsTrack(land, l, nil); e != api.OK {
			t.Errorf("the reports %d: %d", i, e)
		}
	}
	if _, _, e := shoal.Least(land, make([]api.ShoalReport, api.ShoalReports+1)); e != api.ErrShoalReport {
		t.Errorf("one report too many: %d", e)
	}
}

// The errors are asked in their order: each one of these is wrong in all that follows, too.
func TestErrorsComeInOrder(t *testing.T) { // P1.1 to P1.6
	badSea, badReports, badCasts := api.ShoalSea{}, make([]api.ShoalReport, 25), []api.ShoalCast(nil)
	casts := []api.ShoalCast{{Cell: 0, Far: 1}}
	for i, x := range []struct {
		s           api.ShoalSea
		l           []api.ShoalReport
		wrong, hour int
		casts       []api.ShoalCast
		want        errnos
	}{
		{badSea, badReports, -1, 3, badCasts, errnos{10, 10, 10, 10, 10, 10}},
		{allLand(), badReports, -1, 3, badCasts, errnos{11, 11, 11, 11, 11, 11}},
		{allLand(), nil, -1, 0, badCasts, errnos{0, 4, 7, 4, 7, 7}},
		{allLand(), nil, 25, 0, badCasts, errnos{0, 4, 7, 4, 7, 7}},
		{allLand(), nil, 0, -1, badCasts, errnos{0, 4, 7, 4, 7, 7}},
		{allLand(), nil, 0, 3, badCasts, errnos{0, 4, 7, 4, 7, 7}},
		{allLand(), nil, 24, 2, badCasts, errnos{0, 4, 12, 4, 13, 13}},
		{allLand(), nil, 24, 2, casts, errnos{0, 4, 12, 4, 12, 12}},
		{away(), nil, 24, 1, casts, errnos{0, 4, 12, 4, 12, 12}},
		{row(), seen(3), 0, 1, casts, errnos{0, 0, 12, 0, 12, 12}},
		{row(), seen(3), 2, 1, casts, errnos{0, 0, 0, 0, 0, 4}},
		{row(), seen(2), 0, 0, casts, errnos{}},
		{row(), nil, math.MaxInt, math.MinInt, casts, errnos{0, 0, 7, 0, 7, 7}},
	} {
		if e := all(t, x.s, x.l, nil, x.wrong, x.hour, x.casts); e != x.want {
			t.Errorf("errors %d: %v", i, e)
		}
	}
}

func TestCastsThatAreWrong(t *testing.T) { // P1.5, P1.6
	good := api.ShoalCast{Cell: 3, Far: 9}
	for i, casts := range [][]api.ShoalCast{
		nil, {}, make([]api.ShoalCast, 9),
		{good, {Cell: -1}}, {good, {Cell: 4}}, {good, {Far: -1}}, {good, {Far: 10}},
		{{Cell: math.MaxInt}, good}, {{Far: math.MinInt}, good},
	} {
		e := all(t, row(), seen(3), nil, 0, 0, casts)
		if e.next != api.ErrShoalAsk || e.sure != api.ErrShoalAsk {
			t.Errorf("casts %d: %v", i, e)
		}
	}
	for i, casts := range [][]api.ShoalCast{{good}, slices.Repeat([]api.ShoalCast{good}, api.ShoalCasts)} {
		if e := all(t, row(), seen(3), nil, 3, 0, casts); e.next != api.OK || e.sure != api.OK {
			t.Errorf("valid casts %d: %v", i, e)
		}
	}
}

func TestIsTrack(t *testing.T) { // P1.1
	island := field(2, 1)
	island.Land = []int{5}
	carried := field(2, 0)
	carried.Drift[0] = api.ShoalStep{East: -2, North: 1}
	quick := field(2, 2)
	for i, x := range []struct {
		s      api.ShoalSea
		l      []api.ShoalReport
		track  []int
		untrue int
		is     bool
	}{
		{row(), seen(2), []int{0, 2, 3}, 0, true},
		{row(), seen(2), []int{0, 0, 3}, 0, false},
		{row(), seen(2), []int{1, 1, 0}, 2, true},
		{row(), seen(5), []int{0, 2, 3}, 3, true},
		{row(), seen(5), nil, 0, false},
		{row(), seen(5), []int{0, 2}, 0, false},
		{row(), seen(5), []int{0, 2, 3, 3}, 0, false},
		{row(), nil, []int{2, 3, 4}, 0, false},
		{row(), nil, []int{-1, 0, 0}, 0, false},
		{row(), nil, []int{math.MinInt, math.MaxInt, 0}, 0, false},
		{allLand(), nil, []int{0, 1, 2}, 0, false},
		{away(), nil, []int{1, 0}, 0, false},
		{island, nil, []int{0, 5}, 0, false},
		{island, nil, []int{5, 0}, 0, false},
		{island, nil, []int{1, 4}, 0, true},
		{island, nil, []int{1, 3}, 0, false},
		{island, nil, []int{3, 4}, 0, false}, // neighbours by number, but not in the sea
		{island, nil, []int{1, 9}, 0, false},
		{carried, nil, []int{3, 5}, 0, true},
		{carried, nil, []int{3, 4}, 0, false},
		{carried, nil, []int{7, 5}, 0, false},
		{quick, nil, []int{0, 10}, 0, true},
		{quick, nil, []int{0, 11}, 0, false},
		{api.ShoalSea{Wide: 1, High: 1, Hours: 1}, nil, []int{0}, 0, true},
	} {
		if n, is, e := shoal.IsTrack(x.s, x.l, x.track); n != x.untrue || is != x.is || e != api.OK {
			t.Errorf("IsTrack %d: %d, %v, %d", i, n, is, e)
		}
	}
}

func TestWhatIsTrue(t *testing.T) { // Definitions: distance, and which reports are true
	s := field(1, 0)
	for i, x := range []struct {
		r      api.ShoalReport
		cell   int
		untrue int
	}{
		{api.ShoalReport{Cell: 5, There: true}, 5, 0},
		{api.ShoalReport{Cell: 5, There: true}, 6, 1},
		{api.ShoalReport{Cell: 5}, 5, 1},
		{api.ShoalReport{Cell: 5}, 6, 0},
		{api.ShoalReport{Cell: 5, Far: 1, There: true}, 0, 0}, // a corner is one cell away
		{api.ShoalReport{Cell: 5, Far: 1, There: true}, 10, 0},
		{api.ShoalReport{Cell: 5, Far: 1, There: true}, 7, 1},
		{api.ShoalReport{Cell: 0, Far: 2, There: true}, 10, 0},
		{api.ShoalReport{Cell: 0, Far: 2, There: true}, 11, 1},
		{api.ShoalReport{Cell: 0, Far: 1}, 8, 0},
		{api.ShoalReport{Cell: 0, Far: 2}, 8, 1},
		{api.ShoalReport{Cell: 8, Far: 9}, 3, 1},
		{api.ShoalReport{Cell: 3, Far: 9, There: true}, 8, 0},
	} {
		if n, is, e := shoal.IsTrack(s, []api.ShoalReport{x.r}, []int{x.cell}); n != x.untrue || !is || e != api.OK {
			t.Errorf("report %d: %d, %v, %d", i, n, is, e)
		}
	}
}

func TestLeastAndLiars(t *testing.T) { // P1.2, P1.4
	at := func(hour, cell int) api.ShoalReport { return api.ShoalReport{Hour: hour, Cell: cell, There: true} }
	island := field(2, 1)
	island.Land = []int{0, 5}
	for i, x := range []struct {
		s      api.ShoalSea
		l      []api.ShoalReport
		untrue int
		track  []int
		liars  []int
		e      api.Errno
	}{
		{row(), seen(2), 0, []int{0, 2, 3}, nil, api.OK},
		{row(), seen(3), 1, []int{0, 0, 0}, nil, api.OK},
		{row(), seen(5), 1, []int{0, 0, 0}, []int{1}, api.OK},
		{row(), nil, 0, []int{0, 0, 0}, nil, api.OK},
		{allLand(), nil, 0, nil, nil, api.ErrNone},
		{away(), nil, 0, nil, nil, api.ErrNone},
		{island, nil, 0, []int{1, 1}, nil, api.OK},
		{island, []api.ShoalReport{at(0, 5), at(1, 11)}, 1, []int{6, 11}, []int{0}, api.OK}, // nobody is on land
		{island, []api.ShoalReport{at(0, 3), at(1, 4), at(1, 8)}, 2, []int{1, 4}, nil, api.OK},
		{field(2, 0), []api.ShoalReport{at(0, 3), at(0, 7), at(1, 7)}, 1, []int{7, 7}, []int{0}, api.OK},
		{field(1, 0), []api.ShoalReport{{Far: 9}, {Far: 9}}, 2, []int{0}, []int{0, 1}, api.OK},
	} {
		if n, track, e := shoal.Least(x.s, x.l); n != x.untrue || !slices.Equal(track, x.track) || e != x.e {
			t.Errorf("Least %d: %d, %v, %d", i, n, track, e)
		}
		if liars, e := shoal.Liars(x.s, x.l); !slices.Equal(liars, x.liars) || e != x.e {
			t.Errorf("Liars %d: %v, %d", i, liars, e)
		}
	}
}

func TestCan(t *testing.T) { // P1.3
	whole := []int{0, 1, 2, 3}
	all24 := slices.Repeat([]api.ShoalReport{{Far: 9}}, api.ShoalReports)
	for i, x := range []struct {
		l           []api.ShoalReport
		wrong, hour int
		want        []int
		e           api.Errno
	}{
		{seen(2), 0, 0, []int{0}, api.OK},
		{seen(2), 0, 1, []int{2}, api.OK},
		{seen(2), 0, 2, []int{3}, api.OK},
		{seen(3), 0, 1, nil, api.ErrShoalFalse},
		{seen(3), 1, 1, []int{0, 1, 2}, api.OK},
		{seen(3), 2, 1, whole, api.OK},
		{nil, 0, 2, whole, api.OK},
		{nil, 24, 2, whole, api.OK},
		{all24, 24, 1, whole, api.OK}, // all reports may be false
		{all24, 23, 1, nil, api.ErrShoalFalse},
	} {
		if cells, e := shoal.Can(row(), x.l, x.wrong, x.hour); !slices.Equal(cells, x.want) || e != x.e {
			t.Errorf("Can %d: %v, %d", i, cells, e)
		}
	}
}

func TestNext(t *testing.T) { // P1.5
	for i, x := range []struct {
		s            api.ShoalSea
		casts        []api.ShoalCast
		which, worst int
	}{
		{row(), []api.ShoalCast{{Cell: 1, Far: 1}, {Cell: 0}}, 1, 2},
		{row(), []api.ShoalCast{{Cell: 0}, {Cell: 1}, {Cell: 2}}, 0, 2},
		{row(), []api.ShoalCast{{Cell: 3}, {Cell: 2, Far: 1}, {Cell: 0, Far: 1}}, 1, 2},
		{row(), []api.ShoalCast{{Cell: 3}}, 0, 3}, // it finds nothing, and all is left
		{row(), []api.ShoalCast{{Cell: 3}, {Cell: 1, Far: 1}}, 0, 3},
	} {
		if which, worst, e := shoal.Next(x.s, seen(3), 1, 1, x.casts); which != x.which || worst != x.worst || e != api.OK {
			t.Errorf("Next %d: %d, %d, %d", i, which, worst, e)
		}
	}
}

func TestSure(t *testing.T) { // P1.6
	ones := []api.ShoalCast{{Cell: 0}, {Cell: 2}, {Cell: 1}}
	for i, x := range []struct {
		s     api.ShoalSea
		l     []api.ShoalReport
		wrong int
		casts []api.ShoalCast
		want  []int
		e     api.Errno
	}{
		{row(), seen(3), 1, ones, []int{0, 1, 2}, api.OK},
		{row(), seen(3), 1, append(ones[:3:3], api.ShoalCast{Cell: 1, Far: 1}), []int{3}, api.OK},
		{row(), seen(3), 1, ones[:1], nil, api.ErrNone},
		{row(), seen(3), 1, ones[:2], nil, api.ErrNone},
		{row(), seen(3), 1, []api.ShoalCast{{Cell: 0}, {Cell: 0, Far: 1}, {Cell: 1}, {Cell: 2}, {Cell: 2, Far: 1}}, []int{0, 4}, api.OK},
		{row(), seen(3), 2, []api.ShoalCast{{Cell: 3}, {Cell: 0, Far: 1}, {Cell: 3, Far: 1}, {Cell: 2, Far: 1}}, []int{1, 2}, api.OK},
		{row(), seen(2), 0, []api.ShoalCast{{Cell: 3}, {Cell: 2}, {Cell: 2, Far: 9}}, []int{1}, api.OK},
		{row(), nil, 0, []api.ShoalCast{{Cell: 0}, {Cell: 1}, {Cell: 2}, {Cell: 3}, {Cell: 3}, {Cell: 3}, {Cell: 3}, {Cell: 3}}, []int{0, 1, 2, 3}, api.OK},
	} {
		if chosen, e := shoal.Sure(x.s, x.l, x.wrong, 1, x.casts); !slices.Equal(chosen, x.want) || e != x.e {
			t.Errorf("Sure %d: %v, %d", i, chosen, e)
		}
	}
}

// Arguments are as they were, a nil list is an empty one, and two calls share no memory.
func TestMemory(t *testing.T) { // P1.7, P2, R3, R4
	s, l, casts := field(3, 1), seen(3), []api.ShoalCast{{Cell: 1, Far: 1}, {Cell: 6, Far: 2}}
	s.Land = []int{5, 9}
	track := []int{0, 1, 2}
	call := func() []any {
		a, b, _ := shoal.IsTrack(s, l, track)
		c, d, _ := shoal.Least(s, l)
		e, _ := shoal.Can(s, l, 1, 1)
		f, _ := shoal.Liars(s, append(l[:3:3], api.ShoalReport{Cell: 5, There: true}))
		g, h, _ := shoal.Next(s, l, 1, 1, casts)
		i, _ := shoal.Sure(s, l, 1, 1, casts)
		return []any{a, b, c, d, e, f, g, h, i}
	}
	want, first := call(), call()
	for _, x := range first {
		if list, ok := x.([]int); ok {
			if len(list) == 0 {
				t.Error("a list is empty: it shows nothing here")
			}
			for i := range cap(list) {
				list[:cap(list)][i] = -9
			}
		}
	}
	if got := call(); !reflect.DeepEqual(got, want) {
		t.Errorf("called again: %v, not %v", got, want)
	}
	clean := field(3, 1)
	clean.Land = []int{5, 9}
	if !reflect.DeepEqual(s, clean) || !slices.Equal(l, seen(3)) || !slices.Equal(track, []int{0, 1, 2}) || casts[0] != (api.ShoalCast{Cell: 1, Far: 1}) || casts[1] != (api.ShoalCast{Cell: 6, Far: 2}) {
		t.Error("an argument has changed")
	}
	empty, none := api.ShoalSea{Wide: 2, High: 1, Hours: 1, Land: []int{}, Drift: []api.ShoalStep{}}, api.ShoalSea{Wide: 2, High: 1, Hours: 1}
	a, _ := shoal.Can(empty, []api.ShoalReport{}, 0, 0)
	b, _ := shoal.Can(none, nil, 0, 0)
	if !slices.Equal(a, b) || len(a) != 2 {
		t.Errorf("empty lists: %v, nil ones: %v", a, b)
	}
}

// Everything is as by the enumeration of all tracks.
func TestAgainstAllTracks(t *testing.T) { // P1.1 to P1.6
	each(400, func(r *rand.Rand, s api.ShoalSea, l []api.ShoalReport) {
		ways := tracks(s)
		n, those := best(s, l, ways)
		untrue, track, e := shoal.Least(s, l)
		liars, f := shoal.Liars(s, l)
		if n < 0 {
			if e != api.ErrNone || f != api.ErrNone {
				t.Errorf("%v has no track: %d, %d", s, e, f)
			}
		} else if e != api.OK || untrue != n || !slices.Equal(track, those[0]) || f != api.OK || !slices.Equal(liars, liarsOf(s, l, those)) {
			t.Errorf("%v, %v: %d %v, %v; not %d %v, %v", s, l, untrue, track, liars, n, those[0], liarsOf(s, l, those))
		}
		for hour := range s.Hours {
			for wrong := range 4 {
				want := cellsOf(s, l, ways, wrong, hour)
				cells, e := shoal.Can(s, l, wrong, hour)
				if !slices.Equal(cells, want) || (e == api.ErrShoalFalse) != (len(want) == 0) {
					t.Errorf("%v, %v, %d, %d: %v, %d; not %v", s, l, wrong, hour, cells, e, want)
				}
				if len(want) > 0 {
					compareCasts(t, s, l, wrong, hour, anyCasts(r, s), want)
				}
			}
		}
	})
}

func compareCasts(t *testing.T, s api.ShoalSea, l []api.ShoalReport, wrong, hour int, casts []api.ShoalCast, cells []int) {
	t.Helper()
	which, worst := 0, len(cells)+1
	for i, c := range casts {
		n := covered(s, c, cells)
		if w := max(n, len(cells)-n); w < worst {
			which, worst = i, w
		}
	}
	if k, n, e := shoal.Next(s, l, wrong, hour, casts); k != which || n != worst || e != api.OK {
		t.Errorf("%v, %v, %v, %d, %d: Next %d, %d, %d; not %d, %d", s, l, casts, wrong, hour, k, n, e, which, worst)
	}
	want := sureOf(s, casts, cells)
	chosen, e := shoal.Sure(s, l, wrong, hour, casts)
	if !slices.Equal(chosen, want) || (e == api.ErrNone) != (len(want) == 0) {
		t.Errorf("%v, %v, %v, %d, %d: Sure %v, %d; not %v", s, l, casts, wrong, hour, chosen, e, want)
	}
}

// The largest sea is answered at once, and no track of it is better than the best one.
func TestOcean(t *testing.T) { // P1 of the document
	s := ocean()
	var l []api.ShoalReport
	for i := range api.ShoalReports {
		l = append(l, api.ShoalReport{Hour: i / 2, Cell: i * 37 % 80, Far: i % 2, There: true})
	}
	untrue, track, e := shoal.Least(s, l)
	n, is, f := shoal.IsTrack(s, l, track)
	if e != api.OK || f != api.OK || !is || n != untrue || untrue == 0 || untrue == len(l) {
		t.Fatalf("%d, %v, %d; %d, %v, %d", untrue, track, e, n, is, f)
	}
	for hour, cell := range track {
		if !slices.Contains(can(s, l, untrue, hour), cell) {
			t.Errorf("hour %d: not in %d", hour, cell)
		}
		if cells := can(s, l, untrue-1, hour); cells != nil {
			t.Errorf("hour %d: in %v, with fewer false reports", hour, cells)
		}
	}
	casts := []api.ShoalCast{{Cell: 33, Far: 3}, {Cell: 36, Far: 3}, {Cell: 63, Far: 3}, {Cell: 66, Far: 3}, {Cell: 0, Far: 9}, {Cell: 79, Far: 9}, {Cell: 11, Far: 1}, {Cell: 68, Far: 1}}
	if chosen, e := shoal.Sure(s, nil, 0, 11, casts); !slices.Equal(chosen, []int{4}) || e != api.OK {
		t.Errorf("Sure: %v, %d", chosen, e)
	}
	if cells := can(s, nil, 0, 11); len(cells) != 80 {
		t.Errorf("in %d cells", len(cells))
	}
}
