package clerk_test

import (
	"slices"
	"strings"
	"testing"

	"drifter/api"
	"drifter/clerk"
)

// offers returns a line with which a buyer offers so much for so many crans.
func offers(buyer string, crans int, offer string) string {
	return "offer " + buyer + strings.Repeat(" "+offer, crans)
}

func TestDay(t *testing.T) { // P11.2
	s := setup()
	q := newQuay(t, s)
	play(t, q, s, slices.Concat(
		lines("", api.ErrRange, "day 0", "day 99", "day 100001"),
		lines("", api.OK, "day 100", "day 100", "day 101"),
		lines("", api.ErrRange, "day 100"),
		lines("", api.OK, "day 99999", "day 100000", "day 100000"),
		lines("", api.ErrRange, "day 99999", "day 100001", "day 101"),
	)...)
	if q.Day() != 100000 {
		t.Errorf("the day is %d", q.Day())
	}
}

func TestLand(t *testing.T) { // P11.2
	s := setup()
	q := newQuay(t, s)
	play(t, q, s,
		said{"land boat 0", "", api.ErrClerkUnknown}, said{"land curer 1", "", api.ErrClerkUnknown}, said{"land jock 41", "", api.ErrClerkUnknown},
		said{"land drift 0", "", api.ErrRange}, said{"land drift 41", "", api.ErrRange},
		said{"land lugger 1", "1", api.OK}, said{"land drift 2", "3", api.OK}, said{"land drift 3", "6", api.OK}, said{"land lugger 4", "10", api.OK},
		said{"land drift 31", "", api.ErrFull}, said{"land drift 40", "", api.ErrFull}, said{"land drift 41", "", api.ErrRange}, said{"land boat 40", "", api.ErrClerkUnknown},
		said{"land drift 29", "39", api.OK}, said{"land drift 2", "", api.ErrFull}, said{"land lugger 1", "40", api.OK}, said{"land lugger 1", "", api.ErrFull}, said{"land lugger 0", "", api.ErrRange},
		said{"quay", "40", api.OK},
	)
	// each landing is one of its own, also one of the same boat as the one before it
	want := []api.ClerkLanding{{Boat: 1, Crans: 1}, {Boat: 0, Crans: 2}, {Boat: 0, Crans: 3}, {Boat: 1, Crans: 4}, {Boat: 0, Crans: 29}, {Boat: 1, Crans: 1}}
	if l := q.Landings(); !slices.Equal(l, want) {
		t.Errorf("Landings: %v", l)
	}
	whole := newQuay(t, s)
	play(t, whole, s, said{"land lugger 40", "40", api.OK}, said{"land drift 1", "", api.ErrFull})
}

func TestOffer(t *testing.T) { // P11.2
	s := setup()
	q := newQuay(t, s)
	many := offers("kiln", 40, "10000")
	play(t, q, s,
		said{"offer boy", "", api.ErrClerkUnknown}, said{"offer drift 10001 5 6", "", api.ErrClerkUnknown}, said{many[:6] + "boy" + many[10:] + " 10001", "", api.ErrClerkUnknown},
		said{"offer kiln 10001", "", api.ErrRange}, said{"offer kiln 5 10001", "", api.ErrRange}, said{"offer kiln 5 6 999999", "", api.ErrRange}, said{many + " 10001", "", api.ErrRange},
		said{many + " 10000", "", api.ErrFull}, said{offers("kiln", 40, "3") + " 4", "", api.ErrFull},
		said{"offer kiln 5 6", "", api.ErrClerkOffer}, said{"offer kiln 5 4 4 5", "", api.ErrClerkOffer}, said{"offer kiln 0 1", "", api.ErrClerkOffer}, said{"offer kiln 9 5 7 3", "", api.ErrClerkOffer},
		said{"offer kiln", "0", api.OK}, said{"offer kiln 0", "1", api.OK}, said{"offer kiln 10000 5 5 0 0", "5", api.OK}, said{many, "40", api.OK},
		// the offers are those of the last line alone, and below Least they count as such, too
		said{"land drift 3", "3", api.OK}, said{"price", "10000", api.OK}, said{"offer kiln 9 8", "2", api.OK}, said{"price", "8", api.OK},
		said{"offer curer 7 6", "2", api.OK}, said{"price", "7", api.OK}, said{"offer kiln", "0", api.OK}, said{"price", "6", api.OK},
		said{"offer curer 3 2 1", "3", api.OK}, said{"price", "", api.ErrNone}, said{"sell", "", api.ErrClerkSale},
		// an offer that is an error leaves those before it
		said{"offer curer 9", "1", api.OK}, said{"offer curer 5 6", "", api.ErrClerkOffer}, said{"offer curer 10001", "", api.ErrRange}, said{"price", "9", api.OK}, said{"sell", "1 4", api.OK},
	)
}

func TestPrice(t *testing.T) { // P11.2
	s := setup()
	q := newQuay(t, s)
	play(t, q, s,
		said{"price", "", api.ErrNone}, said{"offer curer 20 12 5", "3", api.OK}, said{"offer klondyker 15 14", "2", api.OK}, said{"offer kiln 10 3", "2", api.OK}, said{"price", "", api.ErrNone},
		said{"land drift 1", "1", api.OK}, said{"price", "20", api.OK}, said{"land drift 1", "2", api.OK}, said{"price", "15", api.OK}, said{"land lugger 1", "3", api.OK}, said{"price", "14", api.OK},
		said{"land lugger 4", "7", api.OK}, said{"price", "5", api.OK},
	)
	free := with(func(s *api.ClerkSetup) { s.Least = 0 })
	// a cran can be sold for nothing
	play(t, newQuay(t, free), free,
		said{"land drift 2", "2", api.OK}, said{"offer kiln 0", "1", api.OK}, said{"price", "0", api.OK}, said{"sell", "1 0", api.OK}, said{"price", "", api.ErrNone},
		said{"voyage drift", "0 0", api.OK}, said{"owes kiln", "0", api.OK}, said{"quay", "1", api.OK},
	)
}

func TestSell(t *testing.T) { // P11.2, P11.8
	s := setup()
	q := newQuay(t, s)
	play(t, q, s,
		said{"sell", "", api.ErrClerkSale}, said{"land lugger 2", "2", api.OK}, said{"sell", "", api.ErrClerkSale}, said{"land drift 3", "5", api.OK}, said{"land lugger 4", "9", api.OK},
		said{"offer curer 9 9 9", "3", api.OK}, said{"sell", "3 12", api.OK}, said{"voyage lugger", "8 0", api.OK}, said{"voyage drift", "4 0", api.OK}, said{"owes curer", "12", api.OK}, said{"quay", "6", api.OK},
		// all offers are gone
		said{"price", "", api.ErrNone}, said{"sell", "", api.ErrClerkSale},
	)
	if l := q.Landings(); !slices.Equal(l, []api.ClerkLanding{{Boat: 0, Crans: 2}, {Boat: 1, Crans: 4}}) {
		t.Errorf("Landings: %v", l)
	}
	play(t, q, s,
		said{"offer curer 9 6", "2", api.OK}, said{"offer kiln 8 3", "2", api.OK}, said{"sell", "3 12", api.OK}, said{"owes curer", "20", api.OK}, said{"owes kiln", "4", api.OK}, said{"owes klondyker", "0", api.OK},
		said{"voyage drift", "12 0", api.OK}, said{"voyage lugger", "12 0", api.OK},
	)
	if l := q.Landings(); !slices.Equal(l, []api.ClerkLanding{{Boat: 1, Crans: 3}}) {
		t.Errorf("Landings: %v", l)
	}
	// the whole landing is sold, and more is offered for: 4 pence for one, and what the other one offered for two
	play(t, q, s, said{"offer klondyker 7 7 7 7", "4", api.OK}, said{"offer kiln 6 5", "2", api.OK}, said{"sell", "3 15", api.OK}, said{"owes klondyker", "15", api.OK}, said{"quay", "0", api.OK}, said{"voyage lugger", "27 0", api.OK})
	if l := q.Landings(); len(l) > 0 {
		t.Errorf("Landings: %v", l)
	}
}

// What is sold is divided by the crans of each boat: a penny that is left over goes to the greatest rest, of equal ones to the name that comes first.
func TestThePennyOfASale(t *testing.T) { // P11.2
	s := with(func(s *api.ClerkSetup) {
		s.Boats = []api.ClerkBoat{crewed("zulu", "jock"), crewed("lugger", "jock"), crewed("drift", "jock"), crewed("fifie", "jock")}
		s.Least = 0
	})
	for _, x := range []struct {
		landed, offers []string
		answer         string
		gross          []int
	}{
		{[]string{"land zulu 1", "land lugger 1", "land drift 1"}, []string{"offer curer 9 9 9", "offer kiln 4 3 3"}, "3 10", []int{3, 3, 4, 0}},
		{[]string{"land zulu 1", "land lugger 1", "land drift 1"}, []string{"offer curer 9 9 9", "offer kiln 4 4 3"}, "3 11", []int{3, 4, 4, 0}},
		{[]string{"land lugger 1", "land zulu 1"}, []string{"offer curer 9 9", "offer kiln 4 3"}, "2 7", []int{3, 4, 0, 0}},
		{[]string{"land zulu 2", "land fifie 1"}, []string{"offer curer 9 9 9", "offer kiln 2"}, "3 2", []int{1, 0, 0, 1}},
		{[]string{"land zulu 1", "land fifie 2"}, []string{"offer curer 9 9 9", "offer kiln 1"}, "3 1", []int{0, 0, 0, 1}},
		{[]string{"land fifie 2", "land zulu 1", "land fifie 1"}, []string{"offer curer 9 9 9", "offer kiln 5"}, "4 0", []int{0, 0, 0, 0}},
		{[]string{"land fifie 1", "land zulu 1", "land fifie 1", "land zulu 1", "land lugger 9"}, []string{"offer curer 9 9 9 9", "offer kiln 5 5 5 5 5 5 5 5 5"}, "13 0", []int{0, 0, 0, 0}},
		{[]string{"land drift 1", "land zulu 2", "land drift 1"}, []string{"offer curer 9 9 9 9", "offer kiln 3 2 1"}, "4 6", []int{3, 0, 3, 0}},
		{[]string{"land drift 2", "land zulu 2", "land drift 1"}, []string{"offer curer 9 9 9 9 9", "offer kiln 3 2 1 1"}, "5 7", []int{3, 0, 4, 0}},
	} {
		q := newQuay(t, s)
		for _, line := range slices.Concat(x.landed, x.offers) {
			if a, e := q.Do(line); e != api.OK {
				t.Fatalf("%q: %q, %d", line, a, e)
			}
		}
		play(t, q, s, said{"sell", x.answer, api.OK})
		if l := q.Gross(); !slices.Equal(l, x.gross) {
			t.Errorf("%q: Gross: %v", x.landed, l)
		}
	}
}

// sellDear does all lines of a sale by which a boat earns the most that it can: 400000.
func sellDear(t *testing.T, q *clerk.Quay, boat string) {
	t.Helper()
	for _, line := range []string{"land " + boat + " 40", offers("curer", 40, "10000"), offers("kiln", 40, "10000"), "sell"} {
		if a, e := q.Do(line); e != api.OK {
			t.Fatalf("%q: %q, %d", line, a, e)
		}
	}
}

func TestAGreatGross(t *testing.T) { // P11.2, P11.10
	s := setup()
	q := newQuay(t, s)
	for range 25 {
		sellDear(t, q, "lugger")
	}
	play(t, q, s,
		said{"voyage lugger", "10000000 0", api.OK}, said{"owes curer", "10000000", api.OK},
		said{"land drift 1", "1", api.OK}, said{"land lugger 1", "2", api.OK}, said{"offer curer 9 9", "2", api.OK}, said{"sell", "", api.ErrFull}, said{"price", "9", api.OK}, said{"quay", "2", api.OK},
		// without the cran of the lugger it is sold
		said{"offer curer 9", "1", api.OK}, said{"sell", "1 4", api.OK}, said{"voyage drift", "4 0", api.OK}, said{"voyage lugger", "10000000 0", api.OK},
		said{"sell", "", api.ErrClerkSale}, said{"offer curer 9", "1", api.OK}, said{"sell", "", api.ErrFull},
		// once it is settled there is room again
		said{"settle lugger", "10000000", api.OK}, said{"due jock", "10000000", api.OK}, said{"sell", "1 4", api.OK}, said{"voyage lugger", "4 0", api.OK}, said{"settle lugger", "4", api.OK}, said{"due jock", "10000004", api.OK},
		said{"pay jock 999999", "9000005", api.OK}, said{"paid curer 999999", "9000009", api.OK},
	)
}

// A penny is too much, too.
func TestAPennyMore(t *testing.T) { // P11.2
	s := with(func(s *api.ClerkSetup) { s.Least = 1 })
	q := newQuay(t, s)
	for range 25 {
		sellDear(t, q, "lugger")
	}
	play(t, q, s, said{"land lugger 1", "1", api.OK}, said{"offer curer 9", "1", api.OK}, said{"sell", "", api.ErrFull}, said{"settle lugger", "10000000", api.OK}, said{"sell", "1 1", api.OK})
}

func TestCost(t *testing.T) { // P11.2
	s := setup()
	q := newQuay(t, s)
	play(t, q, s, said{"cost boat 0", "", api.ErrClerkUnknown}, said{"cost curer 1", "", api.ErrClerkUnknown}, said{"cost drift 0", "", api.ErrRange}, said{"voyage drift", "0 0", api.OK})
	for range 9 {
		play(t, q, s, said{"cost drift 1", "", api.OK})
	}
	play(t, q, s,
		said{"cost drift 999999", "", api.OK}, said{"voyage drift", "0 1000008", api.OK}, said{"cost drift 1", "", api.ErrFull}, said{"cost drift 0", "", api.ErrRange}, said{"cost boat 0", "", api.ErrClerkUnknown},
		said{"cost lugger 2", "", api.OK}, said{"voyage lugger", "0 2", api.OK}, said{"voyage drift", "0 1000008", api.OK},
	)
}

func TestSettle(t *testing.T) { // P11.2
	s := setup()
	q := newQuay(t, s)
	play(t, q, s,
		said{"settle boat", "", api.ErrClerkUnknown}, said{"settle jock", "", api.ErrClerkUnknown}, said{"due jock", "", api.ErrClerkUnknown},
		// a voyage that earned nothing is settled, too: each name gets a due
		said{"settle drift", "0", api.OK}, said{"due boy", "0", api.OK}, said{"due eyemouth", "0", api.OK}, said{"sheet", "-", api.OK}, said{"due jock", "", api.ErrClerkUnknown},
		said{"land drift 4", "4", api.OK}, said{"offer kiln 250 250 250 250", "4", api.OK}, said{"offer curer 250 250 250 250", "4", api.OK}, said{"sell", "4 1000", api.OK},
		said{"cost drift 40", "", api.OK}, said{"cost drift 961", "", api.OK}, said{"settle drift", "", api.ErrClerkCost}, said{"voyage drift", "1000 1001", api.OK}, said{"cost lugger 1", "", api.OK}, said{"settle lugger", "", api.ErrClerkCost},
	)
	other := newQuay(t, s)
	play(t, other, s,
		said{"land drift 4", "4", api.OK}, said{"offer kiln 250 250 250 250", "4", api.OK}, said{"offer curer 250 250 250 250", "4", api.OK}, said{"sell", "4 1000", api.OK},
		said{"cost drift 40", "", api.OK}, said{"cost drift 19", "", api.OK}, said{"voyage drift", "1000 59", api.OK}, said{"settle drift", "941", api.OK}, said{"voyage drift", "0 0", api.OK},
		said{"sheet", "boy 43 buckie 456 cullen 132 eyemouth 44 smith 181 wick 85", api.OK}, said{"owes curer", "1000", api.OK},
		// what is settled once is not settled again, but for new dues
		said{"settle drift", "0", api.OK}, said{"due smith", "181", api.OK},
		said{"land drift 1", "1", api.OK}, said{"offer kiln 9", "1", api.OK}, said{"sell", "1 4", api.OK}, said{"cost drift 4", "", api.OK}, said{"settle drift", "0", api.OK}, said{"sheet", "boy 43 buckie 456 cullen 132 eyemouth 44 smith 181 wick 85", api.OK},
	)
	want := []api.ClerkDue{{Name: "boy", Sum: 43}, {Name: "buckie", Sum: 456}, {Name: "cullen", Sum: 132}, {Name: "eyemouth", Sum: 44}, {Name: "smith", Sum: 181}, {Name: "wick", Sum: 85}}
	if l := other.Dues(); !slices.Equal(l, want) {
		t.Errorf("Dues: %v", l)
	}
}

// Who has a stake in two boats has one due; who has one in a part that gets nothing has a due, too.
func TestStakesInTwoBoats(t *testing.T) { // P11.2, P11.3
	s := with(func(s *api.ClerkSetup) {
		s.Boats = append(s.Boats, crewed("zulu", "jock"))
		s.Boats[2].V.Owners, s.Boats[2].V.Lenders = []api.ShareStake{stake("zoe", 3)}, []api.ShareStake{stake("a-0", 1), stake("jock", 0)}
	})
	q := newQuay(t, s)
	play(t, q, s,
		said{"land lugger 1", "1", api.OK}, said{"land zulu 2", "3", api.OK}, said{"offer curer 5 5 5", "3", api.OK}, said{"sell", "3 12", api.OK}, said{"settle zulu", "8", api.OK}, said{"due jock", "8", api.OK},
		said{"settle lugger", "4", api.OK}, said{"due jock", "12", api.OK}, said{"due zoe", "0", api.OK}, said{"due a-0", "0", api.OK}, said{"settle drift", "0", api.OK}, said{"sheet", "jock 12", api.OK},
	)
	var names []string
	for _, d := range q.Dues() {
		names = append(names, d.Name)
	}
	if !slices.Equal(names, []string{"a-0", "boy", "buckie", "cullen", "eyemouth", "jock", "smith", "wick", "zoe"}) {
		t.Errorf("Dues: %v", q.Dues())
	}
}

func TestPay(t *testing.T) { // P11.2
	s := setup()
	play(t, newQuay(t, s), s,
		said{"pay jock 0", "", api.ErrClerkUnknown}, said{"land lugger 1", "1", api.OK}, said{"offer curer 5", "1", api.OK}, said{"sell", "1 4", api.OK}, said{"pay jock 1", "", api.ErrClerkUnknown}, said{"settle lugger", "4", api.OK},
		said{"pay drift 0", "", api.ErrClerkUnknown}, said{"pay smith 1", "", api.ErrClerkUnknown}, said{"pay jock 0", "", api.ErrRange}, said{"pay jock 5", "", api.ErrClerkMoney}, said{"pay jock 1", "3", api.OK}, said{"due jock", "3", api.OK},
		said{"pay jock 4", "", api.ErrClerkMoney}, said{"sheet", "jock 3", api.OK}, said{"pay jock 3", "0", api.OK}, said{"due jock", "0", api.OK}, said{"sheet", "-", api.OK}, said{"pay jock 1", "", api.ErrClerkMoney}, said{"pay jock 0", "", api.ErrRange},
		said{"settle lugger", "0", api.OK}, said{"due jock", "0", api.OK}, said{"owes curer", "4", api.OK},
	)
}

func TestPaid(t *testing.T) { // P11.2
	s := setup()
	q := newQuay(t, s)
	play(t, q, s,
		said{"paid boy 0", "", api.ErrClerkUnknown}, said{"paid jock 1", "", api.ErrClerkUnknown}, said{"paid kiln 0", "", api.ErrRange}, said{"paid kiln 1", "", api.ErrClerkMoney},
		said{"land lugger 2", "2", api.OK}, said{"offer kiln 9", "1", api.OK}, said{"offer curer 8", "1", api.OK}, said{"sell", "2 8", api.OK}, said{"owes kiln", "4", api.OK}, said{"owes boy", "", api.ErrClerkUnknown},
		said{"paid kiln 0", "", api.ErrRange}, said{"paid kiln 5", "", api.ErrClerkMoney}, said{"paid kiln 3", "1", api.OK}, said{"paid kiln 2", "", api.ErrClerkMoney}, said{"owes kiln", "1", api.OK}, said{"paid kiln 1", "0", api.OK}, said{"owes kiln", "0", api.OK}, said{"owes curer", "4", api.OK},
		said{"voyage lugger", "8 0", api.OK},
	)
	if l := q.Owed(); !slices.Equal(l, []int{4, 0, 0}) {
		t.Errorf("Owed: %v", l)
	}
}

func TestBrand(t *testing.T) { // P11.2
	s := setup()
	q := newQuay(t, s)
	wrong := " 1 2 3 1001"
	play(t, q, s,
		said{"brand boy 0", "", api.ErrClerkUnknown}, said{"brand drift 10" + opened, "", api.ErrClerkUnknown},
		said{"brand kiln 0", "", api.ErrRange}, said{"brand kiln 41", "", api.ErrRange}, said{"brand kiln 0" + wrong, "", api.ErrRange}, said{"brand kiln 41" + opened, "", api.ErrRange},
		// the rule speaks of 5 barrels
		said{"brand kiln 4", "", api.ErrClerkBrand}, said{"brand kiln 1" + full, "", api.ErrClerkBrand}, said{"brand kiln 4" + wrong, "", api.ErrClerkBrand},
		said{"brand kiln 10" + wrong, "", api.ErrClerkBrand}, said{"brand kiln 10" + full + " 1001 0 0 0", "", api.ErrClerkBrand}, said{"brand kiln 5" + opened, "", api.ErrClerkBrand},
		said{"brand kiln 10", "", api.ErrNone}, said{"brand kiln 10" + strings.Repeat(full, 4), "", api.ErrNone}, said{"brand kiln 10" + strings.Repeat(full, 4) + strings.Repeat(spent, 2), "", api.ErrNone},
		said{"brand curer 10" + opened, "1 1", api.OK}, said{"brand kiln 6" + opened, "0 4", api.OK}, said{"brand kiln 10" + strings.Repeat(full, 6), "0 1", api.OK}, said{"brand klondyker 10" + strings.Repeat(mattie, 6), "1 1", api.OK},
	)
	want := []api.ClerkBrand{{Buyer: 0, Barrels: 10, Mark: 1}, {Buyer: 2, Barrels: 6, Mark: 0}, {Buyer: 2, Barrels: 10, Mark: 0}, {Buyer: 1, Barrels: 10, Mark: 1}}
	if l := q.Brands(); !slices.Equal(l, want) {
		t.Errorf("Brands: %v", l)
	}
}

func TestManyBrands(t *testing.T) { // P11.2
	s := with(anyLot)
	q := newQuay(t, s)
	for n := range api.ClerkBrands {
		if a, e := q.Do("brand kiln 10" + strings.Repeat(mattie, n%5)); e != api.OK {
			t.Fatalf("%q, %d", a, e)
		}
	}
	play(t, q, s,
		said{"brand kiln 10", "", api.ErrFull}, said{"brand boy 10", "", api.ErrClerkUnknown}, said{"brand kiln 41", "", api.ErrRange}, said{"brand kiln 10 1001 0 0 0", "", api.ErrClerkBrand}, said{"brand kiln 1" + full + full, "", api.ErrClerkBrand},
		said{"land drift 1", "1", api.OK},
	)
	if l := q.Brands(); len(l) != 40 {
		t.Errorf("%d lots are branded", len(l))
	}
	// ErrNone comes before a full book
	strict := setup()
	full40 := newQuay(t, strict)
	for range api.ClerkBrands {
		if a, e := full40.Do("brand kiln 6" + opened); a != "0 4" || e != api.OK {
			t.Fatalf("%q, %d", a, e)
		}
	}
	play(t, full40, strict, said{"brand kiln 10", "", api.ErrNone}, said{"brand kiln 4", "", api.ErrClerkBrand}, said{"brand kiln 6" + opened, "", api.ErrFull})
}

func TestGrade(t *testing.T) { // P11.2
	s := setup()
	play(t, newQuay(t, s), s,
		said{"grade" + full, "0", api.OK}, said{"grade" + mattie, "1", api.OK}, said{"grade" + spent, "", api.ErrNone}, said{"grade 0 0 0 0", "", api.ErrNone}, said{"grade 1000 1000 1000 1000", "", api.ErrNone},
		said{"grade 1001 180 150 950", "", api.ErrClerkBrand}, said{"grade 260 1001 150 950", "", api.ErrClerkBrand}, said{"grade 260 180 1001 950", "", api.ErrClerkBrand}, said{"grade 260 180 150 1001", "", api.ErrClerkBrand},
		// the qualities are length, fat, salt and pack, in this order
		said{"grade 250 150 120 900", "0", api.OK}, said{"grade 400 300 200 1000", "0", api.OK}, said{"grade 249 150 120 900", "1", api.OK}, said{"grade 250 149 120 900", "1", api.OK}, said{"grade 250 150 119 900", "1", api.OK}, said{"grade 250 150 120 899", "1", api.OK},
		said{"grade 400 300 220 1000", "1", api.OK}, said{"grade 401 300 200 1000", "", api.ErrNone}, said{"grade 400 301 200 1000", "", api.ErrNone}, said{"grade 400 300 221 1000", "", api.ErrNone},
	)
}

func TestAsking(t *testing.T) { // P11.2, P11.10
	s := setup()
	q := newQuay(t, s)
	play(t, q, s,
		said{"due boy", "", api.ErrClerkUnknown}, said{"due drift", "", api.ErrClerkUnknown}, said{"due curer", "", api.ErrClerkUnknown}, said{"owes boy", "", api.ErrClerkUnknown}, said{"owes drift", "", api.ErrClerkUnknown},
		said{"voyage boat", "", api.ErrClerkUnknown}, said{"voyage curer", "", api.ErrClerkUnknown}, said{"voyage lugger", "0 0", api.OK}, said{"owes klondyker", "0", api.OK}, said{"quay", "0", api.OK}, said{"sheet", "-", api.OK}, said{"price", "", api.ErrNone}, said{"grade" + full, "0", api.OK},
	)
	if len(q.Journal()) > 0 || q.File() != "" {
		t.Errorf("the journal is %q", q.Journal())
	}
}

// A journal has 150 lines: one more is ErrFull before any other error, but that of its form.
func TestAFullJournal(t *testing.T) { // P11.2, P11.3
	s := setup()
	q := newQuay(t, s)
	for n := range api.ClerkJournal {
		if a, e := q.Do([]string{"day 100", "offer kiln 9 5"}[n%2]); e != api.OK {
			t.Fatalf("the line %d: %q, %d", n, a, e)
		}
	}
	play(t, q, s, slices.Concat(
		lines("", api.ErrFull,
			"day 100", "day 99", "land drift 1", "land boat 0", "land drift 41", "offer kiln", "offer boy", "offer kiln 5 6", "sell", "cost drift 1", "cost boat 0", "settle drift", "settle boat",
			"pay boy 0", "paid kiln 1", "paid boy 1", "brand kiln 6"+opened, "brand boy 0", "brand kiln 41", "brand kiln 10",
		),
		lines("", api.ErrClerkLine, "day x", "day", "land drift", "sell 1", "brand kiln 6 1 2 3", "x", ""),
		// a line that asks is answered as before
		lines("0", api.OK, "quay", "owes kiln"), lines("-", api.OK, "sheet"), lines("0 0", api.OK, "voyage drift"), lines("", api.ErrNone, "price"), lines("", api.ErrClerkUnknown, "due boy", "voyage boat"), lines("1", api.OK, "grade"+mattie),
	)...)
	if len(q.Journal()) != 150 || q.Day() != 100 {
		t.Errorf("%d lines, the day %d", len(q.Journal()), q.Day())
	}
}
