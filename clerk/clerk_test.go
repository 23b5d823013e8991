package clerk_test

import (
	"math"
	"reflect"
	"slices"
	"strings"
	"testing"

	"drifter/api"
	"drifter/clerk"
)

func to(low, high int) api.Span { return api.Span{Low: low, High: high} }

func of(some, all int) api.BrandOdds { return api.BrandOdds{Of: some, In: all} }

func stake(name string, weight int) api.ShareStake { return api.ShareStake{Name: name, Weight: weight} }

// drift is the boat whose voyage is that of the chapter on shares.
func drift() api.ClerkBoat {
	return api.ClerkBoat{Name: "drift", V: api.ShareVoyage{
		Boat: 3, Nets: 3, Crew: 2,
		Owners:  []api.ShareStake{stake("buckie", 5), stake("cullen", 3)},
		Lenders: []api.ShareStake{stake("buckie", 20), stake("eyemouth", 10), stake("smith", 0)},
		Hands:   []api.ShareStake{stake("smith", 10), stake("wick", 8), stake("boy", 4)},
		Loans:   []api.ShareLoan{{From: "eyemouth", To: "smith", Nets: 10, Rent: 3}},
	}}
}

// crewed is a boat all of whose pence go to one hand.
func crewed(name, hand string) api.ClerkBoat {
	return api.ClerkBoat{Name: name, V: api.ShareVoyage{Crew: 8, Hands: []api.ShareStake{stake(hand, 1)}}}
}

func marks() []api.BrandMark {
	return []api.BrandMark{{to(250, 400), to(150, 300), to(120, 200), to(900, 1000)}, {to(200, 400), to(100, 300), to(100, 220), to(850, 1000)}}
}

// setup is the one of the document.
func setup() api.ClerkSetup {
	return api.ClerkSetup{
		Boats: []api.ClerkBoat{drift(), crewed("lugger", "jock")}, Buyers: []string{"curer", "klondyker", "kiln"}, Least: 4,
		Marks: marks(), Rule: api.BrandRule{Good: 1, Pass: of(9, 10), Bad: 5, Fail: of(1, 10)}, Day: 100,
	}
}

// with returns the setup of the document, but for one change.
func with(change func(s *api.ClerkSetup)) api.ClerkSetup {
	s := setup()
	change(&s)
	return s
}

// anyLot is a change after which each lot passes, however many barrels of it are opened, or below.
func anyLot(s *api.ClerkSetup) {
	s.Rule = api.BrandRule{Good: 0, Pass: of(0, 1), Bad: 1, Fail: of(1, 1)}
}

// Some tokens of barrels: the first brand is reached, the second one alone, and none.
const (
	full   = " 260 180 150 950"
	mattie = " 220 180 150 950"
	spent  = " 260 90 150 950"
)

// opened is the six opened barrels of the document.
const opened = full + full + full + full + mattie + spent

func newQuay(t *testing.T, s api.ClerkSetup) *clerk.Quay {
	t.Helper()
	q, e := clerk.New(s)
	if e != api.OK || q == nil {
		t.Fatalf("New: %v, %d", q, e)
	}
	return q
}

// list returns a list that is not nil.
func list[T any](l []T) []T { return append([]T{}, l...) }

// state is all that a quay tells of itself, but for its offers.
type state struct {
	day         int
	landings    []api.ClerkLanding
	owed, gross []int
	dues        []api.ClerkDue
	brands      []api.ClerkBrand
	journal     []string
	file        string
	voyages     []string
	price       string
	priceError  api.Errno
}

func stateOf(q *clerk.Quay, s api.ClerkSetup) state {
	x := state{
		day: q.Day(), landings: list(q.Landings()), owed: list(q.Owed()), gross: list(q.Gross()), dues: list(q.Dues()),
		brands: list(q.Brands()), journal: list(q.Journal()), file: q.File(),
	}
	for _, b := range s.Boats {
		a, _ := q.Do("voyage " + b.Name)
		x.voyages = append(x.voyages, a)
	}
	x.price, x.priceError = q.Do("price")
	return x
}

// said is a line, its answer, and its error.
type said struct {
	line, answer string
	e            api.Errno
}

// isAsked reports whether a line asks.
func isAsked(line string) bool {
	word, _, _ := strings.Cut(line, " ")
	return slices.Contains([]string{"due", "owes", "quay", "price", "voyage", "sheet", "grade"}, word)
}

// play does lines, one after the other: a line that is an error, or asks, changes nothing, each other one is added to the journal.
func play(t *testing.T, q *clerk.Quay, s api.ClerkSetup, l ...said) {
	t.Helper()
	for _, x := range l {
		before := stateOf(q, s)
		a, e := q.Do(x.line)
		if a != x.answer || e != x.e {
			t.Errorf("%q: %q, %d, not %q, %d", x.line, a, e, x.answer, x.e)
		}
		after := stateOf(q, s)
		if e != api.OK || isAsked(x.line) {
			if !reflect.DeepEqual(after, before) {
				t.Errorf("%q: it was\n%v, it is\n%v", x.line, before, after)
			}
		} else if !slices.Equal(after.journal, append(before.journal, x.line)) {
			t.Errorf("%q: the journal is %q", x.line, after.journal)
		}
	}
}

// lines are some that are answered by the same.
func lines(answer string, e api.Errno, l ...string) []said {
	var all []said
	for _, line := range l {
		all = append(all, said{line, answer, e})
	}
	return all
}

// story is the lines of the document's example.
func story() []said {
	return []said{
		{"land drift 2", "2", api.OK}, {"land lugger 1", "3", api.OK}, {"quay", "3", api.OK},
		{"offer curer 20 12 5", "3", api.OK}, {"offer klondyker 15 14", "2", api.OK}, {"offer kiln 10 3", "2", api.OK},
		{"price", "14", api.OK}, {"sell", "3 32", api.OK}, {"sell", "", api.ErrClerkSale},
		{"owes klondyker", "22", api.OK}, {"voyage drift", "21 0", api.OK}, {"voyage lugger", "11 0", api.OK},
		{"settle lugger", "11", api.OK}, {"due jock", "11", api.OK},
		{"cost drift 4", "", api.OK}, {"settle drift", "17", api.OK}, {"due smith", "3", api.OK},
		{"pay smith 2", "1", api.OK}, {"pay smith 2", "", api.ErrClerkMoney}, {"paid klondyker 22", "0", api.OK},
		{"sheet", "boy 1 buckie 8 cullen 3 eyemouth 1 jock 11 smith 1 wick 1", api.OK},
		{"grade" + mattie, "1", api.OK}, {"brand curer 10" + opened, "1 1", api.OK},
		{"offer kiln 3 4", "", api.ErrClerkOffer}, {"offer kiln", "0", api.OK}, {"land drift 41", "", api.ErrRange},
	}
}

func TestTheExample(t *testing.T) { // P11.2, P11.3, P11.4
	s := setup()
	q := newQuay(t, s)
	play(t, q, s, story()...)
	var journal []string
	for _, x := range story() {
		if x.e == api.OK && !isAsked(x.line) {
			journal = append(journal, x.line)
		}
	}
	want := state{
		day: 100, landings: []api.ClerkLanding{}, owed: []int{10, 0, 0}, gross: []int{0, 0},
		dues:   []api.ClerkDue{{Name: "boy", Sum: 1}, {Name: "buckie", Sum: 8}, {Name: "cullen", Sum: 3}, {Name: "eyemouth", Sum: 1}, {Name: "jock", Sum: 11}, {Name: "smith", Sum: 1}, {Name: "wick", Sum: 1}},
		brands: []api.ClerkBrand{{Buyer: 0, Barrels: 10, Mark: 1}}, journal: journal, file: strings.Join(journal, "\n") + "\n",
		voyages: []string{"0 0", "0 0"}, priceError: api.ErrNone,
	}
	if got := stateOf(q, s); !reflect.DeepEqual(got, want) {
		t.Errorf("the quay is\n%v, not\n%v", got, want)
	}
}

func TestANewQuay(t *testing.T) { // P11.1, P11.3
	s := with(func(s *api.ClerkSetup) { s.Day = 7 })
	want := state{
		day: 7, landings: []api.ClerkLanding{}, owed: []int{0, 0, 0}, gross: []int{0, 0}, dues: []api.ClerkDue{}, brands: []api.ClerkBrand{},
		journal: []string{}, voyages: []string{"0 0", "0 0"}, priceError: api.ErrNone,
	}
	if got := stateOf(newQuay(t, s), s); !reflect.DeepEqual(got, want) {
		t.Errorf("a new quay is\n%v, not\n%v", got, want)
	}
	play(t, newQuay(t, s), s, slices.Concat(lines("0", api.OK, "quay", "owes curer", "owes kiln"), lines("-", api.OK, "sheet"), lines("", api.ErrClerkUnknown, "due jock", "due smith"))...)
}

// isValid holds Check, New and Open to whether a setup is valid.
func isValid(t *testing.T, what string, s api.ClerkSetup, is bool) {
	t.Helper()
	want := api.ErrClerk
	if is {
		want = api.OK
	}
	if e := clerk.Check(s); e != want {
		t.Errorf("%s: Check: %d", what, e)
	}
	if q, e := clerk.New(s); e != want || (q != nil) != is {
		t.Errorf("%s: New: %v, %d", what, q, e)
	}
	if q, at, e := clerk.Open(s, ""); e != want || (q != nil) != is || at != 0 {
		t.Errorf("%s: Open: %v, %d, %d", what, q, at, e)
	}
	if is {
		return
	}
	// the error of the setup comes before those of the file
	for _, file := range []string{"x", "quay\n", "day 100\nday 1\n", strings.Repeat("x", api.MaxText+1)} {
		if q, at, e := clerk.Open(s, file); q != nil || at != 0 || e != api.ErrClerk {
			t.Errorf("%s: Open of %.20q: %v, %d, %d", what, file, q, at, e)
		}
	}
}

func TestValidSetups(t *testing.T) { // P11.1
	longest := strings.Repeat("a", api.MaxName)
	for what, change := range map[string]func(s *api.ClerkSetup){
		"that of the document": func(s *api.ClerkSetup) {},
		"each lot passes":      anyLot,
		"one boat, one buyer":  func(s *api.ClerkSetup) { s.Boats, s.Buyers = s.Boats[:1], s.Buyers[:1] },
		"4 boats":              func(s *api.ClerkSetup) { s.Boats = append(s.Boats, crewed("a", "jock"), crewed("z-9", "jock")) },
		"8 buyers":             func(s *api.ClerkSetup) { s.Buyers = []string{"a", "b", "c", "d", "e", "f", "g", "h"} },
		"long names":           func(s *api.ClerkSetup) { s.Boats[0].Name, s.Buyers[0] = longest, longest },
		"all bytes of names":   func(s *api.ClerkSetup) { s.Boats[0].Name, s.Buyers[0] = "z-az09-", "a--09z" },
		"a buyer like a boat":  func(s *api.ClerkSetup) { s.Buyers[0], s.Buyers[1] = "drift", "jock" },
		"the least Least":      func(s *api.ClerkSetup) { s.Least = 0 },
		"the greatest Least":   func(s *api.ClerkSetup) { s.Least = api.AuctionPrice },
		"the first day":        func(s *api.ClerkSetup) { s.Day = 0 },
		"the last day":         func(s *api.ClerkSetup) { s.Day = api.MaxDay },
		"no costs at all":      func(s *api.ClerkSetup) { s.Boats[0].V.Costs = []int{} },
		"one brand":            func(s *api.ClerkSetup) { s.Marks = s.Marks[:1] },
		"5 brands":             func(s *api.ClerkSetup) { s.Marks = append(s.Marks, s.Marks[0], api.BrandMark{}, s.Marks[1]) },
		"a rule of 40 barrels": func(s *api.ClerkSetup) { s.Rule.Good, s.Rule.Bad = 39, 40 },
		"odds of 1000":         func(s *api.ClerkSetup) { s.Rule.Pass, s.Rule.Fail = of(1000, 1000), of(0, 1000) },
	} {
		isValid(t, what, with(change), true)
	}
}

func TestInvalidSetups(t *testing.T) { // P11.1
	for what, change := range map[string]func(s *api.ClerkSetup){
		"nothing":  func(s *api.ClerkSetup) { *s = api.ClerkSetup{} },
		"no boats": func(s *api.ClerkSetup) { s.Boats = nil },
		"5 boats": func(s *api.ClerkSetup) {
			s.Boats = append(s.Boats, crewed("a", "jock"), crewed("b", "jock"), crewed("c", "jock"))
		},
		"boats of one name":      func(s *api.ClerkSetup) { s.Boats[1].Name = "drift" },
		"boats far apart":        func(s *api.ClerkSetup) { s.Boats = append(s.Boats, crewed("drift", "jock")) },
		"a gross":                func(s *api.ClerkSetup) { s.Boats[0].V.Gross = 1 },
		"a gross of the last":    func(s *api.ClerkSetup) { s.Boats[1].V.Gross = 1 },
		"a gross below 0":        func(s *api.ClerkSetup) { s.Boats[0].V.Gross = -1 },
		"a cost of 0":            func(s *api.ClerkSetup) { s.Boats[0].V.Costs = []int{0} },
		"a gross that is spent":  func(s *api.ClerkSetup) { s.Boats[1].V.Gross, s.Boats[1].V.Costs = 5, []int{5} },
		"7 eighths":              func(s *api.ClerkSetup) { s.Boats[0].V.Boat = 2 },
		"9 eighths of the last":  func(s *api.ClerkSetup) { s.Boats[1].V.Crew = 9 },
		"eighths without owners": func(s *api.ClerkSetup) { s.Boats[0].V.Owners = nil },
		"an owner twice":         func(s *api.ClerkSetup) { s.Boats[0].V.Owners[1].Name = "buckie" },
		"a wrong hand":           func(s *api.ClerkSetup) { s.Boats[1].V.Hands[0].Name = "Jock" },
		"a great stake":          func(s *api.ClerkSetup) { s.Boats[0].V.Hands[0].Weight = api.ShareWeight + 1 },
		"a loan of the last":     func(s *api.ClerkSetup) { s.Boats[1].V.Loans = []api.ShareLoan{{From: "jock", To: "boy", Nets: 1}} },
		"a rent of 9":            func(s *api.ClerkSetup) { s.Boats[0].V.Loans[0].Rent = 9 },
		"nets nobody has":        func(s *api.ClerkSetup) { s.Boats[0].V.Loans[0].Nets = 11 },
		"no buyers":              func(s *api.ClerkSetup) { s.Buyers = nil },
		"9 buyers":               func(s *api.ClerkSetup) { s.Buyers = []string{"a", "b", "c", "d", "e", "f", "g", "h", "i"} },
		"buyers of one name":     func(s *api.ClerkSetup) { s.Buyers[2] = "curer" },
		"Least below 0":          func(s *api.ClerkSetup) { s.Least = -1 },
		"Least too great":        func(s *api.ClerkSetup) { s.Least = api.AuctionPrice + 1 },
		"no brands":              func(s *api.ClerkSetup) { s.Marks = nil },
		"6 brands":               func(s *api.ClerkSetup) { s.Marks = make([]api.BrandMark, 6) },
		"a span upside down":     func(s *api.ClerkSetup) { s.Marks[1][api.BrandPack] = to(6, 5) },
		"a span below 0":         func(s *api.ClerkSetup) { s.Marks[1][api.BrandSalt].Low = -1 },
		"a span above 1000":      func(s *api.ClerkSetup) { s.Marks[0][api.BrandLength].High = 1001 },
		"Good below 0":           func(s *api.ClerkSetup) { s.Rule.Good = -1 },
		"Good not below Bad":     func(s *api.ClerkSetup) { s.Rule.Good = 5 },
		"Bad above 40":           func(s *api.ClerkSetup) { s.Rule.Bad = 41 },
		"Pass of nothing":        func(s *api.ClerkSetup) { s.Rule.Pass = of(0, 0) },
		"Pass above 1":           func(s *api.ClerkSetup) { s.Rule.Pass = of(11, 10) },
		"Fail below 0":           func(s *api.ClerkSetup) { s.Rule.Fail = of(-1, 10) },
		"Fail of too many":       func(s *api.ClerkSetup) { s.Rule.Fail = of(1, 1001) },
		"a day below 0":          func(s *api.ClerkSetup) { s.Day = -1 },
		"a day too late":         func(s *api.ClerkSetup) { s.Day = api.MaxDay + 1 },
	} {
		isValid(t, what, with(change), false)
	}
	for _, name := range []string{"", "Drift", "1a", "-a", "a b", "a_b", "aé", "a\n", "a.", strings.Repeat("a", api.MaxName+1)} {
		isValid(t, "the boat "+name, with(func(s *api.ClerkSetup) { s.Boats[1].Name = name }), false)
		isValid(t, "the buyer "+name, with(func(s *api.ClerkSetup) { s.Buyers[2] = name }), false)
	}
	for _, n := range []int{math.MinInt, math.MaxInt} {
		isValid(t, "Least at the end", with(func(s *api.ClerkSetup) { s.Least = n }), false)
		isValid(t, "Day at the end", with(func(s *api.ClerkSetup) { s.Day = n }), false)
		isValid(t, "Gross at the end", with(func(s *api.ClerkSetup) { s.Boats[1].V.Gross = n }), false)
		isValid(t, "Bad at the end", with(func(s *api.ClerkSetup) { s.Rule.Bad = n }), false)
		isValid(t, "a weight at the end", with(func(s *api.ClerkSetup) { s.Boats[1].V.Hands[0].Weight = n }), false)
	}
}

func TestNoQuay(t *testing.T) { // P11.1, R3
	var none *clerk.Quay
	for _, q := range []*clerk.Quay{none, {}, new(clerk.Quay)} {
		for _, line := range []string{"day 5", "quay", "sheet", "sell", "", "x", strings.Repeat("x", 500)} {
			if a, e := q.Do(line); a != "" || e != api.ErrNil {
				t.Errorf("%.10q: %q, %d", line, a, e)
			}
		}
		if q.Day() != 0 || q.File() != "" {
			t.Errorf("the day %d, the file %q", q.Day(), q.File())
		}
		if len(q.Landings())+len(q.Owed())+len(q.Gross())+len(q.Dues())+len(q.Brands())+len(q.Journal()) > 0 {
			t.Error("a quay that is none has something")
		}
	}
}
