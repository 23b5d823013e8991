package stock_test

import (
	"math"
	"math/rand/v2"
	"reflect"
	"slices"
	"testing"

	"drifter/api"
	"drifter/stock"
)

// roomy returns a copy of a list with room behind it.
func roomy[T any](l []T) []T { return append(make([]T, 0, len(l)+20), l...) }

// behind reports whether something was written behind the end of a list.
func behind[T any](l []T) bool {
	var none T
	return slices.ContainsFunc(l[len(l):cap(l)], func(x T) bool { return !reflect.DeepEqual(x, none) })
}

// question is all that can be asked of the package.
type question struct {
	scales       []api.StockScale
	from, to     int
	races        [][]api.Span
	seen         []api.Span
	race         api.StockRace
	takes, young []int
	fishery      api.StockFishery
	quota        int
	cells        []api.StockCell
	boxes        [][]int
	most         int
}

// own is the one of the document.
func own() question {
	races, seen := signs()
	return question{scales(), 4, 6, races, seen, autumn(), []int{30, 30}, []int{90, 80}, fishery(), 8, cells(), boxes(), 2}
}

func anyQuestion(r *rand.Rand) question {
	races, seen := anySigns(r)
	sea, boxes := anySea(r, 30)
	years := between(r, 1, 10)
	return question{anyScales(r, 20, 50, 20), 3, between(r, 3, 20), races, seen, anyRace(r, between(r, 1, 6), 60), numbers(r, years, 0, 60), numbers(r, years, 0, 60), anyFishery(r, 60), r.IntN(200), sea, boxes, r.IntN(9)}
}

// answer is all that is told of a question.
type answer struct {
	aged                api.Span
	shares              []api.Span
	played, boxes       []int
	quota, spared, lost int
	first               breach
	errors              [7]api.Errno
}

func (q question) ask() (a answer) {
	a.aged, a.errors[0] = stock.Aged(q.scales, q.from, q.to)
	a.shares, a.errors[1] = stock.Shares(q.races, q.seen)
	a.played, a.errors[2] = stock.Play(q.race, q.takes, q.young)
	a.errors[3] = stock.Check(q.fishery)
	a.quota, a.errors[4] = stock.Quota(q.fishery)
	a.first.race, a.first.season, a.first.year, a.errors[5] = stock.First(q.fishery, q.quota)
	a.boxes, a.spared, a.lost, a.errors[6] = stock.Boxes(q.cells, q.boxes, q.most)
	return a
}

func roomyLists[T any](l [][]T) [][]T {
	l = roomy(l)
	for i := range l {
		l[i] = roomy(l[i])
	}
	return l
}

func roomyRace(r api.StockRace) api.StockRace {
	r.Numbers, r.Keep, r.Spawn = roomy(r.Numbers), roomy(r.Keep), roomy(r.Spawn)
	return r
}

// roomyQuestion returns a copy of a question with room behind all its lists.
func roomyQuestion(q question) question {
	q.scales, q.races, q.seen = roomy(q.scales), roomyLists(q.races), roomy(q.seen)
	q.race, q.takes, q.young = roomyRace(q.race), roomy(q.takes), roomy(q.young)
	q.cells, q.boxes = roomy(q.cells), roomyLists(q.boxes)
	f := api.StockFishery{Races: roomy(q.fishery.Races), Most: roomy(q.fishery.Most), Seasons: roomy(q.fishery.Seasons)}
	for i := range f.Races {
		f.Races[i] = roomyRace(f.Races[i])
	}
	for i := range f.Seasons {
		f.Seasons[i] = roomyLists(f.Seasons[i])
	}
	q.fishery = f
	return q
}

func behindLists[T any](l [][]T) bool { return behind(l) || slices.ContainsFunc(l, behind[T]) }

func behindRace(r api.StockRace) bool { return behind(r.Numbers) || behind(r.Keep) || behind(r.Spawn) }

func (q question) behind() bool {
	f := q.fishery
	return behind(q.scales) || behindLists(q.races) || behind(q.seen) || behindRace(q.race) || behind(q.takes) || behind(q.young) || behind(q.cells) || behindLists(q.boxes) ||
		behind(f.Races) || behind(f.Most) || behind(f.Seasons) || slices.ContainsFunc(f.Races, behindRace) || slices.ContainsFunc(f.Seasons, behindLists[int])
}

// Arguments are as they were, also behind the end of a list.
func TestArguments(t *testing.T) { // P9.7, R4
	all := []question{own()}
	for seed := range uint64(50) {
		all = append(all, anyQuestion(rand.New(rand.NewPCG(90, seed))))
	}
	for _, want := range all {
		q := roomyQuestion(want)
		as := roomyQuestion(want)
		q.ask()
		if !reflect.DeepEqual(q, as) || q.behind() {
			t.Errorf("the question is %v, not %v", q, as)
		}
	}
}

// An argument that is changed later does not change what is told, nor what is asked then.
func TestArgumentsAfterwards(t *testing.T) { // P9.7, R4, P2
	q := own()
	got, want := q.ask(), own().ask()
	q.scales[0].Seen, q.races[0][0], q.seen[0] = 1, to(0, 100), to(0, 100)
	q.race.Numbers[1], q.takes[0], q.young[1] = 9, 9, 9
	q.fishery.Races[1].Line, q.fishery.Most[1], q.fishery.Seasons[1][1][0] = 0, 0, 99
	q.cells[0].Spawners, q.boxes[2][0] = 0, 0
	if !reflect.DeepEqual(got, want) {
		t.Errorf("%v, not %v", got, want)
	}
	if a := q.ask(); reflect.DeepEqual(a, want) || a.played[0] != 31 || a.quota != 37 {
		t.Errorf("another question has the answer %v", a)
	}
	if again := own().ask(); !reflect.DeepEqual(again, want) {
		t.Errorf("%v, then %v", want, again)
	}
}

// A result that is changed changes no argument, and no other result.
func TestResults(t *testing.T) { // P9.7, R4
	for seed := range uint64(50) {
		q := anyQuestion(rand.New(rand.NewPCG(91, seed)))
		q = roomyQuestion(q)
		want, as := q.ask(), roomyQuestion(q)
		a := q.ask()
		for _, l := range [][]int{a.played, a.boxes} {
			for i := range l {
				l[i] = -99
			}
			_ = append(l, -99)
		}
		for i := range a.shares {
			a.shares[i] = to(-99, -99)
		}
		_ = append(a.shares, to(-99, -99))
		if again := q.ask(); !reflect.DeepEqual(again, want) || !reflect.DeepEqual(q, as) || q.behind() {
			t.Errorf("%v: %v, then %v", q, want, again)
		}
	}
}

// The same arguments have the same results, whatever was called before.
func TestTheSameAgain(t *testing.T) { // P2
	for seed := range uint64(100) {
		q := anyQuestion(rand.New(rand.NewPCG(92, seed)))
		first := q.ask()
		anyQuestion(rand.New(rand.NewPCG(93, seed))).ask()
		if again := q.ask(); !reflect.DeepEqual(again, first) {
			t.Fatalf("%v: %v, then %v", q, first, again)
		}
	}
}

// isRaceOf holds a race to the chapter's words.
func isRaceOf(r api.StockRace) bool {
	ages := len(r.Numbers)
	is := ages >= 1 && ages <= 6 && len(r.Keep) == ages && len(r.Spawn) == ages && r.Line >= 0 && r.Line <= 100000000 && r.Mesh >= 0 && r.Mesh < ages
	for age := 0; is && age < ages; age++ {
		is = r.Numbers[age] >= 0 && r.Numbers[age] <= 100000 && r.Keep[age] >= 0 && r.Keep[age] <= 1000 && r.Spawn[age] >= 0 && r.Spawn[age] <= 100
	}
	return is
}

func all(l []int, most int) bool {
	return !slices.ContainsFunc(l, func(n int) bool { return n < 0 || n > most })
}

func isFisheryOf(f api.StockFishery) bool {
	is := len(f.Races) >= 1 && len(f.Races) <= 3 && len(f.Most) == len(f.Races) && all(f.Most, 100) && len(f.Seasons) >= 1 && len(f.Seasons) <= 6
	for _, r := range f.Races {
		is = is && isRaceOf(r)
	}
	for _, season := range f.Seasons {
		is = is && len(season) == len(f.Races)
		for _, l := range season {
			is = is && len(l) >= 1 && len(l) <= 10 && len(l) == len(f.Seasons[0][0]) && all(l, 100000)
		}
	}
	return is
}

func areSpansOf(l []api.Span, most int) bool {
	return !slices.ContainsFunc(l, func(s api.Span) bool { return s.Low < 0 || s.High > most || s.Low > s.High })
}

// wants returns the errors that the chapter asks for; none is told by ErrNone, which is tested elsewhere.
func (q question) wants() (l [7]api.Errno) {
	var ages []api.Span
	var seen []int
	for _, s := range q.scales {
		ages, seen = append(ages, s.Age), append(seen, s.Seen)
	}
	if q.from < 0 || q.from > 20 || q.to < q.from || q.to > 20 {
		l[0] = api.ErrRange
	}
	if len(q.scales) > 20 || !areSpansOf(ages, 20) || !all(seen, 10000) {
		l[0] = api.ErrStockScale
	}
	if len(q.races) < 1 || len(q.races) > 3 || len(q.seen) < 1 || len(q.seen) > 6 || !areSpansOf(q.seen, 100) || slices.ContainsFunc(q.races, func(r []api.Span) bool { return len(r) != len(q.seen) || !areSpansOf(r, 100) }) {
		l[1] = api.ErrStockSign
	}
	if !isRaceOf(q.race) || len(q.takes) != len(q.young) || len(q.takes) < 1 || len(q.takes) > 10 || !all(q.takes, 100000000) || !all(q.young, 100000) {
		l[2] = api.ErrStockRace
	}
	if q.quota < 0 || q.quota > 10000 {
		l[5] = api.ErrRange
	}
	if !isFisheryOf(q.fishery) {
		l[3], l[4], l[5] = api.ErrStockFishery, api.ErrStockFishery, api.ErrStockFishery
	}
	if q.most < 0 || q.most > 8 {
		l[6] = api.ErrRange
	}
	is := len(q.cells) <= 12 && len(q.boxes) <= 8
	for _, c := range q.cells {
		is = is && all([]int{c.Spawners, c.Landings}, 10000)
	}
	for _, b := range q.boxes {
		is = is && all(b, len(q.cells)-1) && slices.IsSorted(b) && len(slices.Compact(slices.Clone(b))) == len(b)
	}
	if !is {
		l[6] = api.ErrStockBox
	}
	return l
}

// spoiled returns a question in which one number or list is another one.
func spoiled(r *rand.Rand, q question) question {
	q = roomyQuestion(q)
	odd := []int{math.MinInt, math.MinInt + 1, -100, -1, 0, 1, 3, 5, 6, 7, 8, 9, 10, 11, 12, 13, 20, 21, 100, 101, 1000, 1001, 10000, 10001, 100000, 100001, 100000000, 100000001, 1 << 31, 1 << 32, math.MaxInt - 1, math.MaxInt}
	n := odd[r.IntN(len(odd))]
	number := func(l []int) {
		if len(l) > 0 {
			l[r.IntN(len(l))] = n
		}
	}
	cut := func(l []int) []int { return slices.Repeat([]int{1}, r.IntN(12)) }
	span := func(l []api.Span) {
		if len(l) > 0 {
			l[r.IntN(len(l))] = []api.Span{to(n, n), to(n, 100), to(0, n)}[r.IntN(3)]
		}
	}
	spoil := func(x *api.StockRace) {
		for _, l := range []*[]int{&x.Numbers, &x.Keep, &x.Spawn} {
			if r.IntN(3) == 0 {
				number(*l)
			}
			if r.IntN(30) == 0 {
				*l = cut(*l)
			}
		}
		if r.IntN(2) == 0 {
			*[]*int{&x.Line, &x.Mesh}[r.IntN(2)] = n
		}
	}
	f := q.fishery
	race, season := r.IntN(len(f.Races)), r.IntN(len(f.Seasons))
	for _, change := range []func(){
		func() { q.from = n }, func() { q.to = n }, func() { q.quota = n }, func() { q.most = n },
		func() { q.scales = append(q.scales, group(n, 1, 2)) }, func() { q.scales = append(q.scales, group(1, n, 2)) }, func() { q.scales = append(q.scales, group(1, 2, n)) },
		func() { span(q.races[r.IntN(len(q.races))]) }, func() { span(q.seen) }, func() { q.seen = q.seen[:r.IntN(len(q.seen)+1)] }, func() { q.races = append(q.races, q.races[0]) }, func() { q.races = q.races[:r.IntN(2)] },
		func() { spoil(&q.race) }, func() { number(q.takes) }, func() { number(q.young) }, func() { q.takes = cut(q.takes) }, func() { q.young, q.takes = cut(q.young), cut(q.takes) },
		func() { spoil(&f.Races[race]) }, func() { number(f.Most) }, func() { q.fishery.Most = cut(f.Most) }, func() { number(f.Seasons[season][race]) }, func() { f.Seasons[season][race] = cut(nil) }, func() { f.Seasons[season] = f.Seasons[season][:r.IntN(len(f.Races))] }, func() { q.fishery.Seasons = slices.Repeat(f.Seasons, r.IntN(8)) }, func() { q.fishery.Races = f.Races[:r.IntN(len(f.Races))] },
		func() { q.cells = append(q.cells, cell(n, 1)) }, func() { q.cells = append(q.cells, cell(1, n)) }, func() { q.boxes = append(q.boxes, []int{n}) }, func() { q.boxes = append(q.boxes, []int{0, n}) }, func() { q.cells = q.cells[:r.IntN(len(q.cells)+1)] },
	} {
		if r.IntN(10) == 0 {
			change()
		}
	}
	return q
}

// Any numbers at all: many of them are wrong, and what is wrong is told in the order of the chapter.
func TestAnything(t *testing.T) { // P1, P9.1, P9.2, P9.3, P9.4, P9.5, P9.6, R1, R2
	r := rand.New(rand.NewPCG(9, 90))
	var fine, wrong [7]int
	for range 20000 {
		q := spoiled(r, anyQuestion(r))
		want, a := q.wants(), q.ask()
		for i, e := range a.errors {
			if want[i] != api.OK {
				wrong[i]++
			} else {
				fine[i]++
			}
			if e == api.ErrNone && (i == 1 || i == 4 || i == 5) {
				e = api.OK
			}
			if e != want[i] {
				t.Fatalf("%v: the error %d is %d, not %d", q, i, e, want[i])
			}
		}
		var zero answer
		zero.errors = a.errors
		e := a.errors
		for i, clear := range []func(){func() { a.aged = api.Span{} }, func() { a.shares = nil }, func() { a.played = nil }, func() {}, func() { a.quota = 0 }, func() { a.first = breach{} }, func() { a.boxes, a.spared, a.lost = nil, 0, 0 }} {
			if e[i] == api.OK {
				clear()
			}
		}
		if !reflect.DeepEqual(a, zero) {
			t.Fatalf("%v: with the errors %v something is told: %v", q, e, a)
		}
	}
	if slices.Min(fine[:]) < 1000 || slices.Min(wrong[:]) < 1000 {
		t.Errorf("only so often all is well: %v, and so often not: %v", fine, wrong)
	}
}
