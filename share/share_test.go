package share_test

import (
	"math"
	"math/rand/v2"
	"reflect"
	"slices"
	"strings"
	"testing"

	"drifter/api"
	"drifter/share"
)

func stake(name string, weight int) api.ShareStake { return api.ShareStake{Name: name, Weight: weight} }

func loan(from, to string, nets, rent int) api.ShareLoan {
	return api.ShareLoan{From: from, To: to, Nets: nets, Rent: rent}
}

// night is the voyage of the chapter's examples, with more loans.
func night(more ...api.ShareLoan) api.ShareVoyage {
	return api.ShareVoyage{
		Gross: 1000, Costs: []int{40, 19}, Boat: 3, Nets: 3, Crew: 2,
		Owners:  []api.ShareStake{stake("buckie", 5), stake("cullen", 3)},
		Lenders: []api.ShareStake{stake("buckie", 20), stake("eyemouth", 10), stake("smith", 0)},
		Hands:   []api.ShareStake{stake("smith", 10), stake("wick", 8), stake("boy", 4)},
		Loans:   append([]api.ShareLoan{loan("eyemouth", "smith", 10, 3)}, more...),
	}
}

// idle is a voyage whose eighths are all the crew's, in which nobody else has a stake.
func idle() api.ShareVoyage {
	v := night()
	v.Boat, v.Nets, v.Crew, v.Owners, v.Lenders, v.Loans = 0, 0, 8, nil, nil, nil
	return v
}

// most is a voyage of which everything is as great, and as many, as can be.
func most() api.ShareVoyage {
	v := api.ShareVoyage{Gross: api.ShareSum, Costs: make([]int, api.ShareCosts), Boat: 2, Nets: 4, Crew: 2}
	for i := range api.ShareStakes {
		s := stake(strings.Repeat("z", api.MaxName-1)+string(rune('0'+i)), api.ShareWeight)
		v.Owners, v.Lenders, v.Hands = append(v.Owners, s), append(v.Lenders, s), append(v.Hands, s)
	}
	// nine lend all their nets to the last one, which lends three of these on
	for i := range api.ShareLoans {
		from, to := v.Lenders[i%9].Name, v.Lenders[9].Name
		if i >= 9 {
			from, to = to, from
		}
		v.Loans = append(v.Loans, loan(from, to, 1000, 0))
	}
	return v
}

// check calls every function with a voyage, and holds all of them to one error; with an error, everything else must be zero (R2, P1).
func check(t *testing.T, what string, i int, v api.ShareVoyage, want api.Errno) {
	t.Helper()
	claims, e1 := share.Claims(v)
	boat, nets, crew, e2 := share.Parts(v)
	dues, e3 := share.Shares(v)
	if e := share.Check(v); e != want || e1 != want || e2 != want || e3 != want {
		t.Errorf("%s %d: %d, %d, %d, %d; not %d", what, i, e, e1, e2, e3, want)
	}
	if want != api.OK && (claims != nil || boat != 0 || nets != 0 || crew != 0 || dues != nil) {
		t.Errorf("%s %d: besides the error %v; %d %d %d; %v", what, i, claims, boat, nets, crew, dues)
	}
}

func TestDivide(t *testing.T) { // P3.1
	for i, x := range []struct {
		sum  int
		l    []api.ShareStake
		want []int
	}{
		{353, []api.ShareStake{stake("buckie", 5), stake("cullen", 3)}, []int{221, 132}},
		{10, []api.ShareStake{stake("b", 1), stake("a", 1), stake("c", 1)}, []int{3, 4, 3}},
		{11, []api.ShareStake{stake("b", 1), stake("a", 1), stake("c", 1)}, []int{4, 4, 3}},
		{2, []api.ShareStake{stake("ab", 1), stake("b", 1), stake("a", 1)}, []int{1, 0, 1}},
		{1, []api.ShareStake{stake("aa", 1), stake("a0", 1), stake("a-", 1)}, []int{0, 0, 1}}, // byte by byte
		{1, []api.ShareStake{stake("b", 2), stake("a", 1)}, []int{1, 0}},                      // the rest is before the name
		{2, []api.ShareStake{stake("a", 1), stake("b", 3), stake("c", 1)}, []int{1, 1, 0}},    // 0.4, 1.2 and 0.4
		{0, []api.ShareStake{stake("a", 5), stake("b", 3)}, []int{0, 0}},
		{1, []api.ShareStake{stake("a", 0), stake("b", 1)}, []int{0, 1}},
		{9, []api.ShareStake{stake("z", 1)}, []int{9}},
		{10000000, []api.ShareStake{stake("b", 1000), stake("a", 1000), stake("c", 1000)}, []int{3333333, 3333334, 3333333}},
		{10000000, []api.ShareStake{stake("b", 999), stake("a", 1000), stake("c", 1000)}, []int{3331110, 3334445, 3334445}},
		{9999999, most().Owners, []int{1000000, 1000000, 1000000, 1000000, 1000000, 1000000, 1000000, 1000000, 1000000, 999999}},
	} {
		if l, e := share.Divide(x.sum, x.l); !slices.Equal(l, x.want) || e != api.OK {
			t.Errorf("Divide %d: %v, %d", i, l, e)
		}
	}
}

// wrongStakes are lists that are no stakes, and what is wrong with them alone.
func wrongStakes() [][]api.ShareStake {
	l := [][]api.ShareStake{
		{stake("a", 1), stake("a", 1)}, {stake("a", 1), stake("b", 2), stake("a", 3)},
		{stake("a", 1), stake("b", -1)}, {stake("a", 1), stake("b", 1001)}, {stake("a", 1), stake("b", math.MinInt)}, {stake("a", math.MaxInt), stake("b", math.MaxInt)},
		append(most().Owners, stake("a", 1)),
	}
	for _, name := range []string{"", strings.Repeat("a", 17), "A", "aB", "1", "9a", "-", "-a", "a_", "a b", "a.", "`", "{", "a/", "a:", "a,", "a\x00", "é", "aé", "a\xff"} {
		l = append(l, []api.ShareStake{stake("a", 1), stake(name, 1)})
	}
	return l
}

func TestDivideWithErrors(t *testing.T) { // P3.1
	good, none := []api.ShareStake{stake("a", 1)}, []api.ShareStake{stake("a", 0), stake("b", 0)}
	for i, x := range []struct {
		sum int
		l   []api.ShareStake
		e   api.Errno
	}{
		{-1, good, api.ErrRange}, {10000001, good, api.ErrRange}, {math.MinInt, good, api.ErrRange}, {math.MaxInt, good, api.ErrRange},
		{-1, nil, api.ErrRange}, {10000001, none, api.ErrRange}, {-1, wrongStakes()[0], api.ErrRange},
		{5, nil, api.ErrShareParts}, {5, []api.ShareStake{}, api.ErrShareParts}, {5, none, api.ErrShareParts}, {0, none, api.ErrShareParts}, {0, nil, api.ErrShareParts},
	} {
		if l, e := share.Divide(x.sum, x.l); l != nil || e != x.e {
			t.Errorf("Divide %d: %v, %d", i, l, e)
		}
	}
	for i, l := range wrongStakes() {
		if got, e := share.Divide(5, l); got != nil || e != api.ErrShareParts {
			t.Errorf("the wrong stakes %d: %v, %d", i, got, e)
		}
	}
	for _, name := range []string{"a", "z", "a-", "a--", "a0", "z9", "abcdefghijklmnop", "m-1-2-3-4-5-6-7-"} {
		if _, e := share.Divide(5, []api.ShareStake{stake(name, 1)}); e != api.OK {
			t.Errorf("the name %q: %d", name, e)
		}
	}
}

func TestVoyagesThatAreRight(t *testing.T) { // P3.2
	bare, lent, free, costly, same := night(), night(), night(), night(), night()
	bare.Costs, bare.Loans = nil, nil
	lent.Boat, lent.Nets = 6, 0 // the loans are checked, and claims are told, also if nothing goes to nets
	free.Gross, free.Costs = 0, []int{0, 0}
	costly.Costs = []int{1000}
	same.Owners, same.Hands = same.Lenders, same.Lenders
	for i, v := range []api.ShareVoyage{night(), idle(), most(), bare, lent, free, costly, same} {
		check(t, "voyage", i, v, api.OK)
	}
}

func TestVoyagesThatAreWrong(t *testing.T) { // P3.2
	changes := []func(*api.ShareVoyage){
		func(v *api.ShareVoyage) { *v = api.ShareVoyage{} },
		func(v *api.ShareVoyage) { v.Gross, v.Costs = -1, nil },
		func(v *api.ShareVoyage) { v.Gross = 10000001 },
		func(v *api.ShareVoyage) { v.Gross = math.MinInt },
		func(v *api.ShareVoyage) { v.Gross = math.MaxInt },
		func(v *api.ShareVoyage) { v.Gross = 58 },
		func(v *api.ShareVoyage) { v.Costs = make([]int, 11) },
		func(v *api.ShareVoyage) { v.Costs = []int{-1} },
		func(v *api.ShareVoyage) { v.Costs = []int{1001, -1} },
		func(v *api.ShareVoyage) { v.Costs = []int{1001} },
		func(v *api.ShareVoyage) { v.Costs = []int{500, 501} },
		func(v *api.ShareVoyage) { v.Costs = []int{math.MaxInt, math.MaxInt, 2} },
		func(v *api.ShareVoyage) { v.Costs = []int{math.MinInt, math.MinInt} },
		func(v *api.ShareVoyage) { v.Boat = 4 },
		func(v *api.ShareVoyage) { v.Crew = 1 },
		func(v *api.ShareVoyage) { v.Boat, v.Nets, v.Crew = 0, 0, 0 },
		func(v *api.ShareVoyage) { v.Boat, v.Nets, v.Crew = -1, 7, 2 },
		func(v *api.ShareVoyage) { v.Boat, v.Nets, v.Crew = 7, -1, 2 },
		func(v *api.ShareVoyage) { v.Boat, v.Nets, v.Crew = 7, 2, -1 },
		func(v *api.ShareVoyage) { v.Boat, v.Nets, v.Crew = 9, -1, 0 },
		func(v *api.ShareVoyage) { v.Boat, v.Nets, v.Crew = math.MinInt, math.MinInt, 8 },
		func(v *api.ShareVoyage) { v.Owners = nil },
		func(v *api.ShareVoyage) { v.Lenders, v.Loans = nil, nil },
		func(v *api.ShareVoyage) { v.Hands = []api.ShareStake{} },
		func(v *api.ShareVoyage) { v.Owners = []api.ShareStake{stake("a", 0), stake("b", 0)} },
		func(v *api.ShareVoyage) { v.Hands = []api.ShareStake{stake("a", 0), stake("b", 0)} },
		func(v *api.ShareVoyage) {
			v.Lenders[0].Weight, v.Lenders[1].Weight, v.Loans = 0, 0, nil
		},
	}
	for _, l := range wrongStakes() {
		changes = append(changes,
			func(v *api.ShareVoyage) { v.Owners = l },
			func(v *api.ShareVoyage) { v.Lenders = append(l, v.Lenders...) },
			func(v *api.ShareVoyage) { v.Hands = l },
			// also of a part that gets nothing
			func(v *api.ShareVoyage) { v.Boat, v.Crew, v.Owners = 0, 5, l },
			func(v *api.ShareVoyage) { v.Nets, v.Crew, v.Lenders, v.Loans = 0, 5, l, nil },
			func(v *api.ShareVoyage) { v.Crew, v.Boat, v.Hands = 0, 5, l })
	}
	for i, change := range changes {
		v := night()
		change(&v)
		check(t, "the wrong voyage", i, v, api.ErrShare)
		v.Loans = append(v.Loans, api.ShareLoan{}) // a wrong voyage comes before a wrong loan
		check(t, "the wrong voyage with wrong loans", i, v, api.ErrShare)
	}
}

func TestClaims(t *testing.T) { // P3.2
	for i, x := range []struct {
		more []api.ShareLoan
		want []int
	}{
		{nil, []int{160, 30, 50}},
		{[]api.ShareLoan{loan("smith", "buckie", 10, 3)}, []int{210, 30, 0}},
		{[]api.ShareLoan{loan("smith", "eyemouth", 10, 3)}, []int{160, 80, 0}},
		{[]api.ShareLoan{loan("smith", "buckie", 10, 8)}, []int{160, 30, 50}},
		{[]api.ShareLoan{loan("buckie", "eyemouth", 20, 0)}, []int{0, 190, 50}},
		{[]api.ShareLoan{loan("buckie", "eyemouth", 1, 7), loan("buckie", "eyemouth", 1, 7)}, []int{158, 32, 50}},
		// smith and eyemouth lend before they have anything
		{[]api.ShareLoan{loan("smith", "eyemouth", 20, 4), loan("buckie", "smith", 20, 4)}, []int{80, 110, 50}},
		{slices.Repeat([]api.ShareLoan{loan("smith", "buckie", 1000, 8), loan("buckie", "smith", 1000, 8)}, 5), []int{160, 30, 50}},
		// the nets come back, and are dearer: smith's claim of 50 is just used up
		{[]api.ShareLoan{loan("smith", "buckie", 25, 6), loan("buckie", "smith", 25, 8)}, []int{210, 30, 0}},
	} {
		if l, e := share.Claims(night(x.more...)); !slices.Equal(l, x.want) || e != api.OK {
			t.Errorf("Claims %d: %v, %d", i, l, e)
		}
	}
	if l, e := share.Claims(idle()); len(l) != 0 || e != api.OK {
		t.Errorf("Claims without lenders: %v, %d", l, e)
	}
	still := night()
	still.Boat, still.Nets = 6, 0
	if l, e := share.Claims(still); !slices.Equal(l, []int{160, 30, 50}) || e != api.OK {
		t.Errorf("Claims without eighths: %v, %d", l, e)
	}
}

func TestLoansThatAreWrong(t *testing.T) { // P3.2
	for i, more := range [][]api.ShareLoan{
		{{}}, slices.Repeat([]api.ShareLoan{loan("buckie", "smith", 1, 8)}, 12),
		{loan("wick", "smith", 1, 3)}, {loan("smith", "wick", 1, 3)}, {loan("cullen", "buckie", 1, 3)}, // not of the Lenders
		{loan("", "smith", 1, 3)}, {loan("smith", "", 1, 3)}, {loan("smith", "smith", 1, 3)}, {loan("buckie", "buckie", 1, 8)},
		{loan("buckie", "smith", 0, 3)}, {loan("buckie", "smith", -1, 3)}, {loan("buckie", "smith", 1, -1)}, {loan("buckie", "smith", 1, 9)},
		{loan("buckie", "smith", 1001, 8), loan("smith", "buckie", 1001, 8)},
		{loan("buckie", "smith", math.MaxInt, 0), loan("smith", "buckie", math.MaxInt, 0)}, {loan("buckie", "smith", math.MinInt, 8)}, {loan("buckie", "smith", 1, math.MinInt)}, {loan("buckie", "smith", 1, math.MaxInt)},
		{loan("buckie", "smith", 21, 8)}, {loan("smith", "buckie", 11, 8)}, {loan("eyemouth", "buckie", 1, 8)}, // more nets than there are
		{loan("smith", "buckie", 10, 2)},                                    // a claim below 0, without too few nets
		{loan("smith", "buckie", 26, 6), loan("buckie", "smith", 26, 8)},    // the same, though all nets are back
		{loan("buckie", "eyemouth", 5, 3), loan("eyemouth", "smith", 6, 3)}, // what is lent further
	} {
		v := night(more...)
		check(t, "the wrong loans", i, v, api.ErrShareLoan)
		v.Boat, v.Nets = 6, 0
		check(t, "the wrong loans without eighths", i, v, api.ErrShareLoan)
	}
	alone := idle()
	alone.Loans = []api.ShareLoan{loan("smith", "wick", 1, 8)} // hands lend no nets
	check(t, "the wrong loans", -1, alone, api.ErrShareLoan)
	more := most()
	more.Loans = append(more.Loans, loan(more.Lenders[0].Name, more.Lenders[9].Name, 1, 8))
	check(t, "the wrong loans", -2, more, api.ErrShareLoan)
}

func TestParts(t *testing.T) { // P3.3
	boats, early := night(), night()
	boats.Boat, boats.Nets = 6, 0
	boats.Costs = []int{59}
	early.Gross, early.Costs = 17, nil
	for i, x := range []struct {
		v                api.ShareVoyage
		boat, nets, crew int
	}{
		{night(), 353, 353, 235}, {idle(), 0, 0, 941}, {boats, 706, 0, 235}, {most(), 2500000, 5000000, 2500000},
		{early, 7, 6, 4}, // 6.375, 6.375 and 4.25
	} {
		if a, b, c, e := share.Parts(x.v); a != x.boat || b != x.nets || c != x.crew || e != api.OK {
			t.Errorf("Parts %d: %d, %d, %d, %d", i, a, b, c, e)
		}
	}
	// boat, crew, nets: in the order of the names, not in that of the eighths
	last := night()
	last.Boat, last.Nets, last.Crew, last.Gross, last.Costs = 2, 3, 3, 2, nil // 0.5, 0.75 and 0.75
	if a, b, c, _ := share.Parts(last); a != 0 || b != 1 || c != 1 {
		t.Errorf("Parts of 2: %d, %d, %d", a, b, c)
	}
	last.Gross = 1
	if a, b, c, _ := share.Parts(last); a != 0 || b != 0 || c != 1 {
		t.Errorf("Parts of 1: %d, %d, %d", a, b, c)
	}
}

func TestShares(t *testing.T) { // P3.3
	all, broke := night(), night()
	all.Boat, all.Nets = 6, 0
	all.Lenders = append(all.Lenders, stake("anst", 7))
	broke.Costs = []int{1000}
	for i, x := range []struct {
		v    api.ShareVoyage
		want []api.ShareDue
	}{
		{night(), []api.ShareDue{{Name: "boy", Crew: 43}, {Name: "buckie", Boat: 221, Nets: 235}, {Name: "cullen", Boat: 132}, {Name: "eyemouth", Nets: 44}, {Name: "smith", Nets: 74, Crew: 107}, {Name: "wick", Crew: 85}}},
		{idle(), []api.ShareDue{{Name: "boy", Crew: 171}, {Name: "smith", Crew: 428}, {Name: "wick", Crew: 342}}},
		{all, []api.ShareDue{{Name: "anst"}, {Name: "boy", Crew: 43}, {Name: "buckie", Boat: 441}, {Name: "cullen", Boat: 265}, {Name: "eyemouth"}, {Name: "smith", Crew: 107}, {Name: "wick", Crew: 85}}},
		{broke, []api.ShareDue{{Name: "boy"}, {Name: "buckie"}, {Name: "cullen"}, {Name: "eyemouth"}, {Name: "smith"}, {Name: "wick"}}},
	} {
		if l, e := share.Shares(x.v); !slices.Equal(l, x.want) || e != api.OK {
			t.Errorf("Shares %d: %v, %d", i, l, e)
		}
	}
	// nobody gets nothing of nothing, although a part without eighths has no weights
	none := idle()
	none.Gross, none.Costs, none.Owners = 0, nil, []api.ShareStake{stake("cullen", 0)}
	if l, e := share.Shares(none); len(l) != 4 || l[1] != (api.ShareDue{Name: "cullen"}) || e != api.OK {
		t.Errorf("Shares of nothing: %v, %d", l, e)
	}
}

func TestDivideAgainstTheOracle(t *testing.T) { // P3.1
	r := rand.New(rand.NewPCG(3, 1))
	for range 5000 {
		pence, l := anySum(r), anyBacked(r)
		names, weights := namesAndWeights(l)
		want := dividedBy(pence, names, weights)
		if got, e := share.Divide(pence, l); !slices.Equal(got, want) || e != api.OK {
			t.Fatalf("Divide of %d, %v: %v, %d; not %v", pence, l, got, e, want)
		}
	}
}

func TestVoyagesAgainstTheOracle(t *testing.T) { // P3.2, P3.3
	r := rand.New(rand.NewPCG(3, 2))
	wrong := 0
	for range 4000 {
		v := anyVoyage(r)
		_, claims, right := claimsOf(v)
		if !right {
			wrong++
			check(t, "a voyage with wrong loans", wrong, v, api.ErrShareLoan)
			continue
		}
		if l, e := share.Claims(v); !slices.Equal(l, claims) || e != api.OK || share.Check(v) != api.OK {
			t.Fatalf("%v: Claims %v, %d; not %v", v, l, e, claims)
		}
		parts := partsOf(v)
		if a, b, c, e := share.Parts(v); !slices.Equal([]int{a, b, c}, parts) || e != api.OK {
			t.Fatalf("%v: Parts %d, %d, %d, %d; not %v", v, a, b, c, e, parts)
		}
		want := sharesOf(v)
		if l, e := share.Shares(v); !slices.Equal(l, want) || e != api.OK {
			t.Fatalf("%v: Shares %v, %d; not %v", v, l, e, want)
		}
	}
	if wrong < 400 || wrong > 3600 {
		t.Errorf("%d of 4000 voyages have wrong loans", wrong)
	}
}

// deep is a copy of a voyage that shares no memory with it.
func deep(v api.ShareVoyage) api.ShareVoyage {
	v.Costs, v.Loans = slices.Clone(v.Costs), slices.Clone(v.Loans)
	v.Owners, v.Lenders, v.Hands = slices.Clone(v.Owners), slices.Clone(v.Lenders), slices.Clone(v.Hands)
	return v
}

// Arguments are as they were, also behind the end of a list, a nil list is an empty one, and two calls share no memory.
func TestMemory(t *testing.T) { // P3.6, P2, R3, R4
	v := night()
	room := append(make([]api.ShareStake, 0, 40), append(night().Owners, stake("q", 9), stake("p", 8))...)
	v.Owners = room[:2]
	hands := append(make([]api.ShareStake, 0, 40), night().Hands...)
	v.Hands = hands
	before := deep(v)
	call := func() []any {
		a, _ := share.Divide(17, v.Hands)
		b, _ := share.Claims(v)
		c, _ := share.Shares(v)
		return []any{a, b, c}
	}
	want, first := call(), call()
	for i := range first[0].([]int) {
		first[0].([]int)[i], first[1].([]int)[i] = -9, -9
	}
	first[2].([]api.ShareDue)[0] = api.ShareDue{}
	if got := call(); !reflect.DeepEqual(got, want) {
		t.Errorf("called again: %v, not %v", got, want)
	}
	if !reflect.DeepEqual(v, before) || room[2] != stake("q", 9) || room[3] != stake("p", 8) {
		t.Errorf("an argument has changed: %v, %v", v, room)
	}
	for _, s := range append(room[4:cap(room):cap(room)], hands[3:cap(hands)]...) {
		if s != (api.ShareStake{}) {
			t.Errorf("%v was written behind an argument", s)
		}
	}
	empty, none := idle(), idle()
	empty.Costs, empty.Owners, empty.Lenders, empty.Loans = []int{}, []api.ShareStake{}, []api.ShareStake{}, []api.ShareLoan{}
	none.Costs = nil
	a, e := share.Shares(empty)
	if b, f := share.Shares(none); !slices.Equal(a, b) || len(a) != 3 || e != api.OK || f != api.OK {
		t.Errorf("empty lists: %v, %d; nil ones: %v, %d", a, e, b, f)
	}
}
