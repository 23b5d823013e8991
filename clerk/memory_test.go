package clerk_test

import (
	"math/rand/v2"
	"reflect"
	"slices"
	"sync"
	"testing"

	"drifter/api"
	"drifter/clerk"
)

// roomy returns a copy of a list with room behind it.
func roomy[T any](l []T) []T { return append(make([]T, 0, len(l)+20), l...) }

// behind reports whether something was written behind the end of a list.
func behind[T any](l []T) bool {
	var none T
	return slices.ContainsFunc(l[len(l):cap(l)], func(x T) bool { return !reflect.DeepEqual(x, none) })
}

// roomySetup returns a copy of a setup with room behind all its lists.
func roomySetup(s api.ClerkSetup) api.ClerkSetup {
	s.Boats, s.Buyers, s.Marks = roomy(s.Boats), roomy(s.Buyers), roomy(s.Marks)
	for i := range s.Boats {
		v := &s.Boats[i].V
		v.Costs, v.Owners, v.Lenders, v.Hands, v.Loans = roomy(v.Costs), roomy(v.Owners), roomy(v.Lenders), roomy(v.Hands), roomy(v.Loans)
	}
	return s
}

func isBehind(s api.ClerkSetup) bool {
	is := behind(s.Boats) || behind(s.Buyers) || behind(s.Marks)
	for _, b := range s.Boats {
		is = is || behind(b.V.Costs) || behind(b.V.Owners) || behind(b.V.Lenders) || behind(b.V.Hands) || behind(b.V.Loans)
	}
	return is
}

// Setups are as they were, also behind the end of a list.
func TestArguments(t *testing.T) { // P11.5, R4
	r := rand.New(rand.NewPCG(11, 5))
	all := []api.ClerkSetup{setup()}
	for range 30 {
		all = append(all, anySetup(r))
	}
	for _, want := range all {
		s, as := roomySetup(want), roomySetup(want)
		q := newQuay(t, s)
		clerk.Check(s)
		for _, x := range story() {
			q.Do(x.line)
		}
		for _, line := range anyLines(r, s, 200) {
			q.Do(line)
		}
		clerk.Open(s, q.File())
		clerk.Open(s, q.File()+"x\n")
		if !reflect.DeepEqual(s, as) || isBehind(s) {
			t.Errorf("the setup is %v, not %v", s, as)
		}
	}
}

// spoil changes all that a setup has.
func spoil(s api.ClerkSetup) {
	for i := range s.Boats {
		v := &s.Boats[i].V
		for _, l := range [][]api.ShareStake{v.Owners, v.Lenders, v.Hands} {
			for k := range l {
				l[k] = stake("thief", 1000)
			}
		}
		for k := range v.Loans {
			v.Loans[k] = api.ShareLoan{From: "thief", To: "smith", Nets: 1000, Rent: 9}
		}
		s.Boats[i] = api.ClerkBoat{Name: "thief"}
	}
	for i := range s.Buyers {
		s.Buyers[i] = "thief"
	}
	for i := range s.Marks {
		s.Marks[i] = api.BrandMark{}
	}
}

// A setup that is changed later does not change the quay.
func TestArgumentsAfterwards(t *testing.T) { // P11.5, R4
	s := setup()
	q := newQuay(t, s)
	spoil(s)
	play(t, q, setup(), story()...)
	s = setup()
	q, _, e := clerk.Open(s, text("day 100"))
	if e != api.OK {
		t.Fatalf("Open: %d", e)
	}
	spoil(s)
	play(t, q, setup(), story()...)
}

// A result that is changed does not change the quay, nor another result.
func TestResults(t *testing.T) { // P11.5, R4
	s := setup()
	q := newQuay(t, s)
	for n, x := range append(story(), said{"land lugger 3", "3", api.OK}, said{"land drift 2", "5", api.OK}, said{"offer kiln 9", "1", api.OK}, said{"sell", "1 4", api.OK}) {
		if a, e := q.Do(x.line); a != x.answer || e != x.e {
			t.Fatalf("%q: %q, %d", x.line, a, e)
		}
		before := stateOf(q, s)
		all := [][]int{q.Owed(), q.Gross()}
		landings, dues, brands, journal := q.Landings(), q.Dues(), q.Brands(), q.Journal()
		for _, l := range all {
			for i := range l {
				l[i] = -1
			}
			_ = append(l, -1)
		}
		for i := range landings {
			landings[i] = api.ClerkLanding{Boat: -1, Crans: -1}
		}
		for i := range dues {
			dues[i] = api.ClerkDue{Name: "thief", Sum: -1}
		}
		for i := range brands {
			brands[i] = api.ClerkBrand{Buyer: -1}
		}
		for i := range journal {
			journal[i] = "spoilt"
		}
		_, _ = append(landings, api.ClerkLanding{Boat: -1}), append(journal, "spoilt")
		_, _ = append(dues, api.ClerkDue{Name: "thief"}), append(brands, api.ClerkBrand{Buyer: -1})
		if after := stateOf(q, s); !reflect.DeepEqual(after, before) {
			t.Fatalf("after %d lines it was\n%v, it is\n%v", n, before, after)
		}
	}
}

// What was told stays as it was, whatever is done then.
func TestResultsAfterwards(t *testing.T) { // P11.5, R4
	r := rand.New(rand.NewPCG(11, 50))
	for range 30 {
		s := anySetup(r)
		q, p := newQuay(t, s), newPort(s)
		var got, want []state
		for _, line := range anyLines(r, s, 150) {
			q.Do(line)
			p.do(line)
			// these are not copied
			got = append(got, state{day: q.Day(), landings: q.Landings(), owed: q.Owed(), gross: q.Gross(), dues: q.Dues(), brands: q.Brands(), journal: q.Journal(), file: q.File()})
			want = append(want, p.state())
		}
		for i := range got {
			x, y := got[i], want[i]
			if x.day != y.day || !slices.Equal(x.landings, y.landings) || !slices.Equal(x.owed, y.owed) || !slices.Equal(x.gross, y.gross) || !slices.Equal(x.dues, y.dues) || !slices.Equal(x.brands, y.brands) || !slices.Equal(x.journal, y.journal) || x.file != y.file {
				t.Fatalf("after %d lines it was\n%v, not\n%v", i, x, y)
			}
		}
	}
}

// Quays of one setup have nothing to do with each other.
func TestTwoQuays(t *testing.T) { // P2, P11.5
	s := setup()
	first, other := newQuay(t, s), newQuay(t, s)
	fresh := stateOf(other, s)
	play(t, first, s, story()...)
	if x := stateOf(other, s); !reflect.DeepEqual(x, fresh) {
		t.Errorf("the other quay is %v", x)
	}
	play(t, other, s, story()...)
	isTheSame(t, s, first, other)
	again, _, e := clerk.Open(s, first.File())
	if e != api.OK {
		t.Fatalf("Open: %d", e)
	}
	before := stateOf(first, s)
	play(t, again, s, said{"land lugger 4", "4", api.OK}, said{"offer kiln 9", "1", api.OK}, said{"sell", "1 4", api.OK}, said{"settle lugger", "4", api.OK})
	if x := stateOf(first, s); !reflect.DeepEqual(x, before) {
		t.Errorf("the first quay was\n%v, it is\n%v", before, x)
	}
}

// Each quay has its own books, also if many are kept at the same time.
func TestManyQuays(t *testing.T) { // P2
	s := setup()
	var all sync.WaitGroup
	for range 8 {
		all.Go(func() {
			q, e := clerk.New(s)
			if e != api.OK {
				t.Errorf("New: %d", e)
				return
			}
			for range 5 {
				for _, x := range anyLines(rand.New(rand.NewPCG(1, 1)), s, 20) {
					q.Do(x)
				}
			}
			if x, _, e := clerk.Open(s, q.File()); e != api.OK || x.File() != q.File() {
				t.Errorf("Open: %d", e)
			}
		})
	}
	all.Wait()
}

// A nil list is an empty one.
func TestEmptyLists(t *testing.T) { // R3
	empty := with(func(s *api.ClerkSetup) {
		v := &s.Boats[1].V
		v.Costs, v.Owners, v.Lenders, v.Loans = []int{}, []api.ShareStake{}, []api.ShareStake{}, []api.ShareLoan{}
	})
	play(t, newQuay(t, empty), empty, story()...)
	for _, s := range []api.ClerkSetup{
		with(func(s *api.ClerkSetup) { s.Boats = []api.ClerkBoat{} }), with(func(s *api.ClerkSetup) { s.Buyers = []string{} }), with(func(s *api.ClerkSetup) { s.Marks = []api.BrandMark{} }),
	} {
		isValid(t, "an empty list", s, false)
	}
}
