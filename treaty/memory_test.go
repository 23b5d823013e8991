package treaty_test

import (
	"math"
	"math/rand/v2"
	"reflect"
	"slices"
	"sync"
	"testing"

	"drifter/api"
	"drifter/treaty"
)

// roomy returns a copy of a list with room behind it.
func roomy[T any](l []T) []T { return append(make([]T, 0, len(l)+20), l...) }

func roomyLists(l [][]int) [][]int {
	l = roomy(l)
	for i := range l {
		l[i] = roomy(l[i])
	}
	return l
}

// behind reports whether something was written behind the end of a list.
func behind[T any](l []T) bool {
	var none T
	return slices.ContainsFunc(l[len(l):cap(l)], func(x T) bool { return !reflect.DeepEqual(x, none) })
}

func behindLists(l [][]int) bool { return behind(l) || slices.ContainsFunc(l, behind[int]) }

// question is all that can be asked of the package.
type question struct {
	claims   api.TreatyClaims
	wishes   [][]int
	exchange []int
	set      int
	trade    api.TreatyTrade
	deals    []int
}

// own is the one of the document.
func own() question {
	return question{claim(71, 10, 40, 60), wishes(), []int{2, 1, 0, 3}, 7, trade(1), []int{1, 0, -1}}
}

func anyQuestion(r *rand.Rand) question {
	q := question{claims: anyClaims(r, rights(r)), wishes: anyWishes(r, between(r, 1, 8)), trade: anyTrade(r, 8, 5)}
	n := len(q.wishes)
	q.exchange, q.set = r.Perm(n), r.IntN(1<<n)
	for range q.trade.Curers {
		q.deals = append(q.deals, between(r, -1, len(q.trade.Countries)-1))
	}
	return q
}

// roomyQuestion returns a copy of a question with room behind all its lists.
func roomyQuestion(q question) question {
	q.claims.Rights, q.wishes, q.exchange, q.deals = roomy(q.claims.Rights), roomyLists(q.wishes), roomy(q.exchange), roomy(q.deals)
	q.trade.Curers, q.trade.Countries = roomyLists(q.trade.Curers), roomy(q.trade.Countries)
	for i := range q.trade.Countries {
		q.trade.Countries[i].Likes = roomy(q.trade.Countries[i].Likes)
	}
	return q
}

func (q question) behind() bool {
	return behind(q.claims.Rights) || behindLists(q.wishes) || behind(q.exchange) || behind(q.deals) || behindLists(q.trade.Curers) || behind(q.trade.Countries) ||
		slices.ContainsFunc(q.trade.Countries, func(c api.TreatyCountry) bool { return behind(c.Likes) })
}

// answer is all that is told of a question.
type answer struct {
	shares, swap, deals []int
	rings               [][]int
	better, stable      bool
	errors              [9]api.Errno
}

func (q question) ask() (a answer) {
	a.errors[0] = treaty.CheckClaims(q.claims)
	a.shares, a.errors[1] = treaty.Shares(q.claims)
	a.errors[2] = treaty.CheckWishes(q.wishes)
	a.rings, a.errors[3] = treaty.Rings(q.wishes)
	a.swap, a.errors[4] = treaty.Swap(q.wishes)
	a.better, a.errors[5] = treaty.Better(q.wishes, q.exchange, q.set)
	a.errors[6] = treaty.CheckTrade(q.trade)
	a.stable, a.errors[7] = treaty.Stable(q.trade, q.deals)
	a.deals, a.errors[8] = treaty.Deals(q.trade)
	return a
}

// Arguments are as they were, also behind the end of a list.
func TestArguments(t *testing.T) { // P10.4, R4
	all := []question{own()}
	for seed := range uint64(200) {
		all = append(all, anyQuestion(rand.New(rand.NewPCG(100, seed))))
	}
	for _, want := range all {
		q, as := roomyQuestion(want), roomyQuestion(want)
		q.ask()
		if !reflect.DeepEqual(q, as) || q.behind() {
			t.Errorf("the question is %v, not %v", q, as)
		}
	}
}

// An argument that is changed later does not change what is told, nor what is asked then.
func TestArgumentsAfterwards(t *testing.T) { // P10.4, R4, P2
	q := own()
	got, want := q.ask(), own().ask()
	q.claims.Rights[0] = 70
	q.wishes[0][0], q.wishes[0][2], q.exchange[0], q.exchange[2] = 0, 2, 0, 2
	q.trade.Curers[0][0], q.trade.Curers[0][1], q.trade.Countries[1].Likes[0], q.trade.Countries[1].Likes[2], q.deals[0] = 1, 0, 2, 0, -1
	if !reflect.DeepEqual(got, want) {
		t.Errorf("%v, not %v", got, want)
	}
	a := q.ask()
	if !slices.Equal(a.shares, []int{24, 24, 23}) || !same(a.rings, [][]int{{0}, {1}, {2}, {3}}) || !slices.Equal(a.deals, []int{-1, 0, 1}) || a.better || a.stable {
		t.Errorf("another question has the answer %v", a)
	}
	if again := own().ask(); !reflect.DeepEqual(again, want) {
		t.Errorf("%v, then %v", want, again)
	}
}

// A result that is changed changes no argument, and no other result.
func TestResults(t *testing.T) { // P10.4, R4
	for seed := range uint64(200) {
		q := roomyQuestion(anyQuestion(rand.New(rand.NewPCG(101, seed))))
		want, as := q.ask(), roomyQuestion(q)
		a := q.ask()
		for _, l := range append([][]int{a.shares, a.swap, a.deals}, a.rings...) {
			for i := range l {
				l[i] = -99
			}
			for i := range l[len(l):cap(l)] {
				l[len(l):cap(l)][i] = -99
			}
		}
		if again := q.ask(); !reflect.DeepEqual(again, want) || !reflect.DeepEqual(q, as) || q.behind() {
			t.Errorf("%v: %v, then %v", q, want, again)
		}
	}
}

// No ring is changed by what is written into another one, or behind its end.
func TestRingsApart(t *testing.T) { // P10.4, R4
	r := rand.New(rand.NewPCG(10, 4))
	for range 500 {
		w := anyWishes(r, between(r, 2, 8))
		l, _ := treaty.Rings(w)
		for i := range l {
			as := deep(l)
			whole := l[i][:cap(l[i])]
			for k := range whole {
				whole[k] = -99
			}
			for k := range l {
				if k != i && !slices.Equal(l[k], as[k]) {
					t.Fatalf("Rings of %v: the ring %d is %v, not %v", w, k, l[k], as[k])
				}
			}
		}
	}
}

// The same arguments have the same results, whatever was called before, and whoever else calls.
func TestTheSameAgain(t *testing.T) { // P2
	var group sync.WaitGroup
	for seed := range uint64(100) {
		group.Go(func() {
			q := anyQuestion(rand.New(rand.NewPCG(102, seed)))
			first := q.ask()
			anyQuestion(rand.New(rand.NewPCG(103, seed))).ask()
			if again := q.ask(); !reflect.DeepEqual(again, first) {
				t.Errorf("%v: %v, then %v", q, first, again)
			}
		})
	}
	group.Wait()
}

// isOrderOf reports whether a list has the numbers from 0 to n-1.
func isOrderOf(l []int, n int) bool {
	return slices.Equal(slices.Sorted(slices.Values(l)), first(n))
}

func (q question) areClaims() bool {
	is := len(q.claims.Rights) >= 1 && len(q.claims.Rights) <= 8
	for _, right := range q.claims.Rights {
		is = is && right >= 0 && right <= 100000
	}
	return is && q.claims.Quota >= 0 && q.claims.Quota <= total(q.claims.Rights)
}

func (q question) areWishes() bool {
	n := len(q.wishes)
	return n >= 1 && n <= 8 && !slices.ContainsFunc(q.wishes, func(l []int) bool { return !isOrderOf(l, n) })
}

func (q question) isTrade() bool {
	curers, countries := len(q.trade.Curers), len(q.trade.Countries)
	is := curers >= 1 && curers <= 8 && countries >= 1 && countries <= 5
	for _, l := range q.trade.Curers {
		sorted := slices.Sorted(slices.Values(l))
		is = is && len(slices.Compact(slices.Clone(sorted))) == len(l) && (len(l) == 0 || sorted[0] >= 0 && sorted[len(l)-1] < countries)
	}
	for _, c := range q.trade.Countries {
		is = is && c.Room >= 0 && c.Room <= 8 && isOrderOf(c.Likes, curers)
	}
	return is
}

// wants returns the errors that the chapter asks for.
func (q question) wants() (l [9]api.Errno) {
	if !q.areClaims() {
		l[0], l[1] = api.ErrTreatyClaims, api.ErrTreatyClaims
	}
	if !isOrderOf(q.exchange, len(q.wishes)) || q.set < 0 || q.set > 255 || q.set >= 1<<len(q.wishes) {
		l[5] = api.ErrTreatyAsk
	}
	if !q.areWishes() {
		l[2], l[3], l[4], l[5] = api.ErrTreatyWishes, api.ErrTreatyWishes, api.ErrTreatyWishes, api.ErrTreatyWishes
	}
	if len(q.deals) != len(q.trade.Curers) || slices.ContainsFunc(q.deals, func(d int) bool { return d < -1 || d >= len(q.trade.Countries) }) {
		l[7] = api.ErrTreatyAsk
	}
	if !q.isTrade() {
		l[6], l[7], l[8] = api.ErrTreatyTrade, api.ErrTreatyTrade, api.ErrTreatyTrade
	}
	return l
}

// spoiled returns a question in which some numbers and lists are other ones.
func spoiled(r *rand.Rand, q question) question {
	q = roomyQuestion(q)
	odd := []int{math.MinInt, math.MinInt + 1, -2, -1, 0, 1, 2, 3, 4, 5, 6, 7, 8, 9, 100000, 100001, 1 << 31, 1 << 32, math.MaxInt - 1, math.MaxInt}
	n := odd[r.IntN(len(odd))]
	number := func(l []int) {
		if len(l) > 0 {
			l[r.IntN(len(l))] = n
		}
	}
	cut := func(l []int) []int {
		if r.IntN(2) == 0 {
			return l[:r.IntN(len(l)+1)]
		}
		return append(l, n)
	}
	nation, curer, country := r.IntN(len(q.wishes)), r.IntN(len(q.trade.Curers)), r.IntN(len(q.trade.Countries))
	for _, change := range []func(){
		func() { q.claims.Quota = n }, func() { number(q.claims.Rights) }, func() { q.claims.Rights = cut(q.claims.Rights) }, func() { q.claims.Rights = make([]int, r.IntN(12)) },
		func() { number(q.wishes[nation]) }, func() { q.wishes[nation] = cut(q.wishes[nation]) }, func() { q.wishes = q.wishes[:r.IntN(len(q.wishes)+1)] }, func() { q.wishes = append(q.wishes, first(len(q.wishes)+1)) },
		func() { number(q.exchange) }, func() { q.exchange = cut(q.exchange) }, func() { q.set = n },
		func() { number(q.trade.Curers[curer]) }, func() { q.trade.Curers[curer] = cut(q.trade.Curers[curer]) }, func() { q.trade.Curers = q.trade.Curers[:r.IntN(len(q.trade.Curers)+1)] }, func() { q.trade.Curers = append(q.trade.Curers, nil) },
		func() { q.trade.Countries[country].Room = n }, func() { number(q.trade.Countries[country].Likes) }, func() { q.trade.Countries[country].Likes = cut(q.trade.Countries[country].Likes) }, func() { q.trade.Countries = q.trade.Countries[:r.IntN(len(q.trade.Countries)+1)] }, func() { q.trade.Countries = append(q.trade.Countries, q.trade.Countries[0]) },
		func() { number(q.deals) }, func() { q.deals = cut(q.deals) },
	} {
		if r.IntN(14) == 0 {
			change()
		}
		if len(q.trade.Countries) == 0 || len(q.wishes) <= nation || len(q.trade.Curers) <= curer || len(q.trade.Countries) <= country {
			break
		}
	}
	return q
}

// Any numbers at all: many of them are wrong, and what is wrong is told in the order of the chapter.
func TestAnything(t *testing.T) { // P1, P10.1, P10.2, P10.3, R1, R2
	r := rand.New(rand.NewPCG(10, 99))
	var fine, wrong [9]int
	for range 30000 {
		q := spoiled(r, anyQuestion(r))
		want, a := q.wants(), q.ask()
		if a.errors != want {
			t.Fatalf("%v: the errors are %v, not %v", q, a.errors, want)
		}
		for i, e := range want {
			if e != api.OK {
				wrong[i]++
			} else {
				fine[i]++
			}
		}
		if want[1] != api.OK && a.shares != nil || want[3] != api.OK && a.rings != nil || want[4] != api.OK && a.swap != nil || want[5] != api.OK && a.better || want[7] != api.OK && a.stable || want[8] != api.OK && a.deals != nil {
			t.Fatalf("%v: with the errors %v something is told: %v", q, want, a)
		}
	}
	if slices.Min(fine[:]) < 1000 || slices.Min(wrong[:]) < 1000 {
		t.Errorf("only so often all is well: %v, and so often not: %v", fine, wrong)
	}
}
