package contract_test

import (
	"math"
	"math/rand/v2"
	"reflect"
	"slices"
	"testing"

	"drifter/api"
	"drifter/contract"
)

// roomy returns a copy of a list with room behind it.
func roomy[T any](l []T) []T { return append(make([]T, 0, len(l)+20), l...) }

// behind reports whether something was written behind the end of a list.
func behind[T any](l []T) bool {
	var none T
	return slices.ContainsFunc(l[len(l):cap(l)], func(x T) bool { return !reflect.DeepEqual(x, none) })
}

// roomyBook returns a copy of a book with room behind all its lists.
func roomyBook(b api.ContractBook) api.ContractBook {
	b = api.ContractBook{Cash: roomy(b.Cash), Debts: roomy(b.Debts), Seasons: roomy(b.Seasons)}
	for s := range b.Seasons {
		b.Seasons[s].Barrels = roomy(b.Seasons[s].Barrels)
	}
	return b
}

// everything calls all functions with a book, and returns the lists that they return.
func everything(b api.ContractBook) [][]int {
	var all [][]int
	which := []int{int(contract.Check(b))}
	for s := range b.Seasons {
		for _, ask := range []func(b api.ContractBook, season int) ([]int, api.Errno){contract.Clear, contract.Rounds, contract.Left} {
			l, _ := ask(b, s)
			all = append(all, l)
		}
		for d := range b.Debts {
			l, e := contract.Behind(b, s, d)
			all, which = append(all, l), append(which, int(e))
		}
	}
	s, d, e := contract.Breaks(b)
	loans, _ := contract.Loans(b)
	return append(all, loans, append(which, s, d, int(e)))
}

// Arguments are as they were, also behind the end of a list.
func TestArguments(t *testing.T) { // P8.5, R4
	for _, want := range []api.ContractBook{own(), most(), row(), turn(), worn(9)} {
		b := roomyBook(want)
		everything(b)
		if !reflect.DeepEqual(b, want) {
			t.Errorf("the book is %v, not %v", b, want)
		}
		if behind(b.Cash) || behind(b.Debts) || behind(b.Seasons) {
			t.Error("something was written behind an argument")
		}
		for _, s := range b.Seasons {
			if behind(s.Barrels) {
				t.Error("something was written behind barrels")
			}
		}
	}
}

// An argument that is changed later does not change what is returned, nor what is called then.
func TestArgumentsAfterwards(t *testing.T) { // P8.5, R4, P2
	b := own()
	got, want := everything(b), everything(own())
	b.Cash[0], b.Debts[1].Due, b.Seasons[1].Price, b.Seasons[2].Barrels[0] = 77, 1, 2, 200
	if !reflect.DeepEqual(got, want) {
		t.Errorf("%v, not %v", got, want)
	}
	if l, e := contract.Clear(b, 2); !slices.Equal(l, []int{60, 1, 40}) || e != api.OK {
		t.Errorf("Clear: %v, %d", l, e)
	}
	if again := everything(own()); !reflect.DeepEqual(again, want) {
		t.Errorf("%v, then %v", want, again)
	}
}

// A result that is changed changes no argument, and no other result.
func TestResults(t *testing.T) { // P8.5, R4
	for _, b := range []api.ContractBook{own(), row(), turn()} {
		want, as := everything(b), copied(b)
		for _, l := range everything(b) {
			for i := range l {
				l[i] = -99
			}
			_ = append(l, -99)
		}
		if again := everything(b); !reflect.DeepEqual(again, want) || !reflect.DeepEqual(b, as) {
			t.Errorf("%v: %v, then %v", b, want, again)
		}
	}
}

// The same arguments have the same results, whatever was called before.
func TestTheSameAgain(t *testing.T) { // P2
	for seed := range uint64(100) {
		b := anyBook(rand.New(rand.NewPCG(8, seed)), great())
		first := everything(b)
		everything(anyBook(rand.New(rand.NewPCG(9, seed)), fitting()))
		if again := everything(b); !reflect.DeepEqual(again, first) {
			t.Fatalf("%v: %v, then %v", b, first, again)
		}
	}
}

// A nil list is an empty one.
func TestEmptyLists(t *testing.T) { // R3
	for _, l := range [][]api.ContractDebt{nil, {}} {
		b := poor([]int{3, 4}, l...)
		b.Debts = l
		paid, e := contract.Clear(b, 0)
		rounds, f := contract.Rounds(b, 0)
		left, g := contract.Left(b, 0)
		if len(paid) != 0 || len(rounds) != 0 || !slices.Equal(left, []int{3, 4}) || e != api.OK || f != api.OK || g != api.OK {
			t.Errorf("no debts: %v, %v, %v; %d, %d, %d", paid, rounds, left, e, f, g)
		}
		if _, _, e := contract.Breaks(b); e != api.ErrNone {
			t.Errorf("no debts: Breaks: %d", e)
		}
		if l, e := contract.Loans(b); !slices.Equal(l, []int{0, 0}) || e != api.OK {
			t.Errorf("no debts: Loans: %v, %d", l, e)
		}
		if l, e := contract.Behind(b, 0, 0); l != nil || e != api.ErrContractAsk {
			t.Errorf("no debts: Behind: %v, %d", l, e)
		}
	}
	for _, l := range [][]int{nil, {}} {
		if e := contract.Check(api.ContractBook{Cash: l, Seasons: []api.ContractSeason{{Barrels: l}}}); e != api.ErrContract {
			t.Errorf("no parties: %d", e)
		}
	}
}

// isBook holds a book to the chapter's words.
func isBook(b api.ContractBook) bool {
	parties := len(b.Cash)
	is := parties >= 1 && parties <= 6 && len(b.Debts) <= 12 && len(b.Seasons) >= 1 && len(b.Seasons) <= 6
	for _, n := range b.Cash {
		is = is && n >= 0 && n <= 10000
	}
	for _, d := range b.Debts {
		is = is && d.From >= 0 && d.From < parties && d.To >= 0 && d.To < parties && d.From != d.To && d.Due >= 1 && d.Due <= 10000
	}
	for _, s := range b.Seasons {
		is = is && s.Price >= 0 && s.Price <= 100 && len(s.Barrels) == parties
		for _, n := range s.Barrels {
			is = is && n >= 0 && n <= 200
		}
	}
	return is
}

// Any numbers at all: many of them are wrong, and what is wrong is told in the order of the chapter.
func TestAnything(t *testing.T) { // P1, P8.1, R1, R2
	r := rand.New(rand.NewPCG(8, 11))
	number := func(most int) int {
		all := []int{math.MinInt, math.MinInt + 1, -10000, -2, -1, 0, 1, 5, 6, 12, 13, 100, 101, 200, 201, 9999, 10000, 10001, 1 << 31, 1 << 32, math.MaxInt - 1, math.MaxInt}
		if r.IntN(30) > 0 {
			return between(r, 0, most)
		}
		return all[r.IntN(len(all))]
	}
	numbers := func(many, most int) []int {
		var l []int
		if r.IntN(20) == 0 {
			many = r.IntN(8)
		}
		for range many {
			l = append(l, number(most))
		}
		return l
	}
	fine, asked, wrong := 0, 0, 0
	for range 20000 {
		parties := between(r, 1, 4)
		b := api.ContractBook{Cash: numbers(parties, 30)}
		for range numbers(r.IntN(6), 1) {
			b.Debts = append(b.Debts, debt(number(parties-1), number(parties-1), number(50)))
		}
		for range numbers(between(r, 1, 3), 1) {
			b.Seasons = append(b.Seasons, season(number(10), numbers(parties, 10)...))
		}
		s, d := number(3), number(4)
		want := api.OK
		switch {
		case !isBook(b):
			want = api.ErrContract
			wrong++
		case s < 0 || s >= len(b.Seasons):
			want = api.ErrContractAsk
			asked++
		default:
			fine++
		}
		for name, ask := range questions() {
			l, e := ask(b, s)
			if name == "Behind" {
				l, e = contract.Behind(b, s, d)
				if want == api.OK && (d < 0 || d >= len(b.Debts)) && e == api.ErrContractAsk || want == api.OK && e == api.ErrNone {
					e = api.OK // whether it is so is tested elsewhere
				}
			}
			if e != want || want != api.OK && l != nil {
				t.Fatalf("%s of %v, %d, %d: %v, %d, not %d", name, b, s, d, l, e, want)
			}
		}
		if want == api.ErrContractAsk {
			want = api.OK
		}
		x, y, e := contract.Breaks(b)
		if e == api.ErrNone && want == api.OK {
			e = api.OK
		}
		l, f := contract.Loans(b)
		if g := contract.Check(b); e != want || f != want || g != want || want != api.OK && (x != 0 || y != 0 || l != nil) {
			t.Fatalf("%v: %d, %d, %d; %v, %d; %d, not %d", b, x, y, e, l, f, g, want)
		}
	}
	if fine < 500 || asked < 500 || wrong < 500 {
		t.Errorf("only %d times all is well; %d questions are wrong, and %d books", fine, asked, wrong)
	}
}
