package clerk_test

import (
	"reflect"
	"slices"
	"strings"
	"testing"

	"drifter/api"
	"drifter/clerk"
)

// text returns lines as a file.
func text(l ...string) string {
	if len(l) == 0 {
		return ""
	}
	return strings.Join(l, "\n") + "\n"
}

// isOpened holds Open to how far it comes, and with which error.
func isOpened(t *testing.T, s api.ClerkSetup, file string, at int, e api.Errno) *clerk.Quay {
	t.Helper()
	q, gotAt, gotE := clerk.Open(s, file)
	if (q != nil) != (e == api.OK) || gotAt != at || gotE != e {
		t.Errorf("Open of %.60q: %v, %d, %d, not %d, %d", file, q != nil, gotAt, gotE, at, e)
	}
	return q
}

func TestOpen(t *testing.T) { // P11.4
	s := setup()
	for _, x := range []struct {
		file string
		at   int
		e    api.Errno
	}{
		{"", 0, api.OK}, {"day 100\n", 1, api.OK}, {"day 100\nday 100\nland drift 3\n", 3, api.OK}, {"offer kiln\nsettle lugger\nbrand curer 10" + opened + "\n", 3, api.OK},
		{"x", 0, api.ErrForm}, {"day 100", 0, api.ErrForm}, {"day 100\nday 101", 0, api.ErrForm}, {"day 99\nday 101", 0, api.ErrForm}, {"x\ny", 0, api.ErrForm}, {"day 100\n ", 0, api.ErrForm}, {"day 100\r", 0, api.ErrForm}, {"quay", 0, api.ErrForm},
		{"\n", 0, api.ErrClerkLine}, {"\n\n", 0, api.ErrClerkLine}, {"day 100\n\n", 1, api.ErrClerkLine}, {"\nday 100\n", 0, api.ErrClerkLine}, {"day 100\n\nday 101\n", 1, api.ErrClerkLine}, {"day 100\r\n", 0, api.ErrClerkLine}, {"day 100 \n", 0, api.ErrClerkLine}, {"x\n", 0, api.ErrClerkLine}, {"day 100\nDay 101\n", 1, api.ErrClerkLine},
		{"day 100\nday 99\nday 100\n", 1, api.ErrRange}, {"day 100\nday 101\nland drift 1\nland boat 1\n", 3, api.ErrClerkUnknown}, {"land drift 40\nland drift 1\n", 1, api.ErrFull}, {"sell\n", 0, api.ErrClerkSale}, {"offer kiln 5 6\n", 0, api.ErrClerkOffer},
		{"cost drift 1\nsettle drift\n", 1, api.ErrClerkCost}, {"settle lugger\npay jock 1\n", 1, api.ErrClerkMoney}, {"brand kiln 4\n", 0, api.ErrClerkBrand}, {"brand kiln 10\n", 0, api.ErrNone},
		// the first one counts
		{"sell\nx\n", 0, api.ErrClerkSale}, {"x\nsell\n", 0, api.ErrClerkLine}, {"day 99\nquay\n", 0, api.ErrRange}, {"quay\nday 99\n", 0, api.ErrClerkLine},
	} {
		isOpened(t, s, x.file, x.at, x.e)
	}
}

// A line that asks has no place in a file, whatever it would be answered.
func TestAskingInAFile(t *testing.T) { // P11.4
	s := setup()
	for _, line := range []string{"due jock", "due boy", "owes kiln", "owes boy", "quay", "price", "voyage drift", "voyage boat", "sheet", "grade" + full, "grade" + spent, "grade 1001 0 0 0"} {
		isOpened(t, s, text(line), 0, api.ErrClerkLine)
		isOpened(t, s, text("settle lugger", line, "day 99"), 1, api.ErrClerkLine)
		isOpened(t, s, text("settle lugger", "day 99", line), 1, api.ErrRange)
	}
	all := slices.Repeat([]string{"day 100"}, api.ClerkJournal)
	isOpened(t, s, text(append(all, "quay")...), 150, api.ErrClerkLine)
}

func TestLongFiles(t *testing.T) { // P11.4
	s := setup()
	all := slices.Repeat([]string{"day 100"}, api.ClerkJournal)
	isOpened(t, s, text(all...), 150, api.OK)
	isOpened(t, s, text(append(all, "day 100")...), 150, api.ErrFull)
	isOpened(t, s, text(append(all, "day 99")...), 150, api.ErrFull)
	isOpened(t, s, text(append(all, "day x")...), 150, api.ErrClerkLine)
	isOpened(t, s, strings.Repeat("\n", api.MaxText), 0, api.ErrClerkLine)
	isOpened(t, s, strings.Repeat("\n", api.MaxText+1), 0, api.ErrLong)
	isOpened(t, s, strings.Repeat("x", api.MaxText), 0, api.ErrForm)
	isOpened(t, s, strings.Repeat("x", api.MaxText+1), 0, api.ErrLong)
	// a file of 65536 bytes that ends in a line that is too long by far
	long := text("day 100", strings.Repeat("x", api.MaxText-len("day 100\n\n")))
	isOpened(t, s, long, 1, api.ErrClerkLine)
	isOpened(t, s, "x"+long, 0, api.ErrLong)
}

// The longest journal of all can be opened.
func TestTheLongestFile(t *testing.T) { // P11.4, P11.6
	s := with(anyLot)
	q := newQuay(t, s)
	// 40 lots can be branded, by lines of 400 bytes
	line := "brand kiln 24" + strings.Repeat(full, 21) + strings.Repeat(" 260 180 150 1000", 3)
	for n := range api.ClerkJournal {
		l := offers("klondyker", 40, "10000")
		if n < api.ClerkBrands {
			l = line
		}
		if a, e := q.Do(l); e != api.OK {
			t.Fatalf("%q: %q, %d", l, a, e)
		}
	}
	isTheSame(t, s, q, isOpened(t, s, q.File(), 150, api.OK))
}

// isTheSame holds a quay to being the same as another one, also in what is offered.
func isTheSame(t *testing.T, s api.ClerkSetup, q, other *clerk.Quay) {
	t.Helper()
	if q == nil || other == nil {
		t.Fatal("there is no quay")
	}
	if a, b := stateOf(q, s), stateOf(other, s); !reflect.DeepEqual(a, b) {
		t.Fatalf("one quay is\n%v, the other one\n%v", a, b)
	}
}

func TestTheFile(t *testing.T) { // P11.3, P11.4, P11.6
	s := setup()
	q := newQuay(t, s)
	var journal []string
	for n, x := range story() {
		q.Do(x.line)
		if x.e == api.OK && !isAsked(x.line) {
			journal = append(journal, x.line)
		}
		if l := q.Journal(); !slices.Equal(l, journal) || q.File() != text(journal...) {
			t.Errorf("after %d lines the journal is %q, the file %q", n, l, q.File())
		}
		other := isOpened(t, s, q.File(), len(journal), api.OK)
		isTheSame(t, s, q, other)
	}
}

// What was opened goes on like any other quay.
func TestGoingOn(t *testing.T) { // P11.4, P11.6
	s := setup()
	for n := range story() {
		q := newQuay(t, s)
		for _, x := range story()[:n] {
			q.Do(x.line)
		}
		other, _, e := clerk.Open(s, q.File())
		if e != api.OK {
			t.Fatalf("Open: %d", e)
		}
		for _, x := range story()[n:] {
			if a, e := other.Do(x.line); a != x.answer || e != x.e {
				t.Errorf("%q: %q, %d", x.line, a, e)
			}
			q.Do(x.line)
		}
		isTheSame(t, s, q, other)
	}
}

// An error of a file leaves no quay, also if its first lines are right.
func TestEachLineOfAFile(t *testing.T) { // P11.4
	s := setup()
	q := newQuay(t, s)
	for _, x := range story() {
		q.Do(x.line)
	}
	l := q.Journal()
	for at := range l {
		for _, x := range []said{{"", "", api.ErrClerkLine}, {"quay", "", api.ErrClerkLine}, {"day 99", "", api.ErrRange}, {"land boat 0", "", api.ErrClerkUnknown}} {
			isOpened(t, s, text(slices.Insert(slices.Clone(l), at, x.line)...), at, x.e)
		}
		isOpened(t, s, text(l[:at]...), at, api.OK)
	}
}

// A file is opened by the setup that is given.
func TestOtherSetups(t *testing.T) { // P11.4
	file := text("land lugger 1", "offer kiln 5", "sell", "settle lugger", "pay jock 4", "day 100")
	isOpened(t, setup(), file, 6, api.OK)
	isOpened(t, with(func(s *api.ClerkSetup) { s.Boats = s.Boats[:1] }), file, 0, api.ErrClerkUnknown)
	isOpened(t, with(func(s *api.ClerkSetup) { s.Buyers = s.Buyers[:2] }), file, 1, api.ErrClerkUnknown)
	isOpened(t, with(func(s *api.ClerkSetup) { s.Least = 6 }), file, 2, api.ErrClerkSale)
	isOpened(t, with(func(s *api.ClerkSetup) { s.Least = 3 }), file, 4, api.ErrClerkMoney)
	isOpened(t, with(func(s *api.ClerkSetup) { s.Boats[1].V.Hands[0].Name = "boy" }), file, 4, api.ErrClerkUnknown)
	isOpened(t, with(func(s *api.ClerkSetup) { s.Day = 101 }), file, 5, api.ErrRange)
	isOpened(t, with(func(s *api.ClerkSetup) { s.Day = -1 }), file, 0, api.ErrClerk)
}
