package clerk_test

import (
	"slices"
	"strings"
	"testing"

	"drifter/api"
)

// numbers is where the numbers of a line begin, for each word.
func numbers() map[string]int {
	return map[string]int{"day": 1, "land": 2, "offer": 2, "cost": 2, "pay": 2, "paid": 2, "brand": 2, "grade": 1}
}

// formed is lines that have the form, at least one with each word.
func formed() []string {
	return []string{
		"day 101", "land drift 3", "offer curer", "offer curer 7", "offer curer 9 8 7 6", "sell", "cost drift 5", "settle drift", "pay jock 1", "paid curer 1",
		"brand curer 10", "brand curer 10" + full, "brand curer 10" + opened, "due jock", "owes curer", "quay", "price", "voyage drift", "sheet", "grade" + full,
	}
}

func TestTheForm(t *testing.T) { // P11.2
	s := setup()
	for _, line := range formed() {
		q := newQuay(t, s)
		if _, e := q.Do(line); e == api.ErrClerkLine {
			t.Errorf("%q does not have the form", line)
		}
		tokens := strings.Split(line, " ")
		word := tokens[0]
		// a token less is right where numbers can be there any number of times, a token more likewise
		isOffer := word == "offer"
		if !(isOffer && len(tokens) > 2) {
			play(t, q, s, said{strings.Join(tokens[:len(tokens)-1], " "), "", api.ErrClerkLine})
		}
		if !isOffer {
			play(t, q, s, said{line + " 1", "", api.ErrClerkLine})
		}
		play(t, q, s, lines("", api.ErrClerkLine,
			" "+line, line+" ", strings.Replace(line+" ", " ", "  ", 1), line+" x", "\t"+line, strings.Replace(line+" ", " ", "\t", 1),
			strings.ToUpper(word)+line[len(word):], strings.ToUpper(line[:1])+line[1:], word+"s"+line[len(word):], word[1:]+line[len(word):],
		)...)
		for at := range tokens {
			from, is := numbers()[word]
			if !is || at < from {
				continue
			}
			for _, wrong := range []string{"", "x", "-1", "+1", "01", "00", "-0", "+0", "1000000", "1000001", "0000001", "99999999999999999999999", "1.", "1.0", "0x1", "1_0", "1e1", "１", "one", "1\n", "\n1", "1,2", "-", "'1'"} {
				other := slices.Clone(tokens)
				other[at] = wrong
				play(t, q, s, said{strings.Join(other, " "), "", api.ErrClerkLine})
			}
			for _, right := range []string{"0", "9", "10", "999999", "100000"} {
				other := slices.Clone(tokens)
				other[at] = right
				if _, e := newQuay(t, s).Do(strings.Join(other, " ")); e == api.ErrClerkLine {
					t.Errorf("%q does not have the form", strings.Join(other, " "))
				}
			}
		}
	}
}

func TestWrongForms(t *testing.T) { // P11.2
	s := setup()
	q := newQuay(t, s)
	play(t, q, s, lines("", api.ErrClerkLine,
		"", " ", "  ", "\n", "x", "drift", "100", "-", "Day 100", "day", "day ", "day drift", "day 100 100", "day  100",
		"land", "land drift", "land 3", "land 3 drift", "land drift lugger", "land drift 1 2", "offer", "offer curer x", "offer curer 5 x", "offer curer 5  4",
		"sell all", "sell 1", "cost", "cost drift", "settle", "settle drift 1", "settle drift lugger", "pay", "pay jock", "pay jock 1 2", "paid", "paid curer", "paid curer x",
		"brand", "brand curer", "brand curer 10 1", "brand curer 10 1 2", "brand curer 10 1 2 3", "brand curer 10 1 2 3 4 5", "brand curer 10 1 2 3 x", "brand curer x 1 2 3 4",
		"due", "due ", "due jock boy", "due jock 1", "owes", "owes curer kiln", "quay drift", "quay 1", "price 4", "voyage", "voyage drift lugger", "sheet jock", "grade", "grade 1 2 3", "grade 1 2 3 4 5", "grade 1 2 3 x", "grade x 1 2 3 4",
	)...)
}

// What stands for a name is a token of any kind: whoever has no such name is not known.
func TestTokensForNames(t *testing.T) { // P11.2
	s := setup()
	q := newQuay(t, s)
	for _, token := range []string{"Drift", "CURER", "1", "-", "00", "jock!", "drif", "drifts", "é", "\xff", strings.Repeat("a", 100)} {
		play(t, q, s, lines("", api.ErrClerkUnknown,
			"land "+token+" 1", "offer "+token, "offer "+token+" 5 5", "cost "+token+" 1", "settle "+token, "pay "+token+" 1", "paid "+token+" 1",
			"brand "+token+" 10", "brand "+token+" 10"+opened, "due "+token, "owes "+token, "voyage "+token,
		)...)
	}
}

func TestLongLines(t *testing.T) { // P11.2
	s := with(anyLot)
	q := newQuay(t, s)
	long := func(n int) string { return "due " + strings.Repeat("b", n-len("due ")) }
	play(t, q, s, said{long(399), "", api.ErrClerkUnknown}, said{long(400), "", api.ErrClerkUnknown}, said{long(401), "", api.ErrClerkLine}, said{long(100000), "", api.ErrClerkLine})
	// 24 barrels of 16 bytes, three of them with a byte more: 400 bytes in all
	line := "brand kiln 24" + strings.Repeat(full, 21)
	most := strings.Repeat(" 260 180 150 1000", 3)
	play(t, q, s, said{line + most, "0 24", api.OK}, said{strings.Replace(line, "260", "1000", 1) + most, "", api.ErrClerkLine})
	if n := len(q.Journal()[0]); n != api.ClerkLine {
		t.Errorf("the line has %d bytes", n)
	}
}

// A number of six digits has the form, also where it is out of range.
func TestGreatNumbers(t *testing.T) { // P11.2
	s := setup()
	play(t, newQuay(t, s), s, slices.Concat(
		lines("", api.ErrRange, "day 999999", "land drift 999999", "offer curer 999999", "brand curer 999999"),
		lines("", api.OK, "cost drift 999999"),
		lines("", api.ErrClerkBrand, "grade 999999 0 0 0", "grade 0 0 0 999999", "brand curer 10 0 0 0 999999"),
	)...)
}
