package contract_test

import (
	"math/rand/v2"
	"slices"
	"testing"

	"drifter/api"
	"drifter/contract"
)

// told is all that the functions tell of a season.
type told struct{ paid, rounds, left []int }

func tell(t *testing.T, b api.ContractBook, s int) (x told) {
	t.Helper()
	var e, f, g api.Errno
	x.paid, e = contract.Clear(b, s)
	x.rounds, f = contract.Rounds(b, s)
	x.left, g = contract.Left(b, s)
	if e != api.OK || f != api.OK || g != api.OK || len(x.paid) != len(b.Debts) || len(x.rounds) != len(b.Debts) || len(x.left) != len(b.Cash) {
		t.Fatalf("%v in the season %d: %v, %d, %d, %d", b, s, x, e, f, g)
	}
	return x
}

func total(l []int) int {
	n := 0
	for _, x := range l {
		n += x
	}
	return n
}

func TestTheClearing(t *testing.T) { // P8.6
	r := rand.New(rand.NewPCG(8, 6))
	several := 0
	for range 2000 {
		b := anyBook(r, small())
		for s := range b.Seasons {
			paid := tell(t, b, s).paid
			if !slices.Equal(answer(b, s, paid), paid) {
				t.Fatalf("%v in the season %d: %v are not fair", b, s, paid)
			}
			all := fair(b, s)
			for _, l := range all {
				for i, n := range l {
					if n > paid[i] {
						t.Fatalf("%v in the season %d: %v are paid, but %v are fair", b, s, paid, l)
					}
				}
			}
			if len(all) > 1 {
				several++
			}
		}
	}
	if several < 100 {
		t.Errorf("only %d times several payments are fair", several)
	}
}

// What is paid is fair in great books, too.
func TestTheClearingOfGreatBooks(t *testing.T) { // P8.6
	r := rand.New(rand.NewPCG(8, 66))
	for range 1000 {
		b := anyBook(r, anySizes(r))
		for s := range b.Seasons {
			if paid := tell(t, b, s).paid; !slices.Equal(answer(b, s, paid), paid) {
				t.Fatalf("%v in the season %d: %v are not fair", b, s, paid)
			}
		}
	}
}

func TestNothingIsLost(t *testing.T) { // P8.7
	r := rand.New(rand.NewPCG(8, 7))
	part, left := 0, 0
	for range 2000 {
		b := anyBook(r, anySizes(r))
		for s := range b.Seasons {
			x := tell(t, b, s)
			all := 0
			for party := range b.Cash {
				all += has(b, s, party)
			}
			if slices.Min(x.left) < 0 || total(x.left) != all {
				t.Fatalf("%v in the season %d: %v are left of %d", b, s, x.left, all)
			}
			for i, d := range b.Debts {
				if x.paid[i] < 0 || x.paid[i] > d.Due || (x.paid[i] == d.Due) != (x.rounds[i] == 0) {
					t.Fatalf("%v in the season %d: the debt %d is paid %d, and breaks in the round %d", b, s, i, x.paid[i], x.rounds[i])
				}
				if x.paid[i] == d.Due {
					continue
				}
				part++
				if x.left[d.From] > 0 {
					t.Fatalf("%v in the season %d: of the debt %d %d are paid, but %v are left", b, s, i, x.paid[i], x.left)
				}
				for k := i + 1; k < len(b.Debts); k++ {
					if b.Debts[k].From == d.From && x.paid[k] > 0 {
						t.Fatalf("%v in the season %d: the debt %d is paid before the debt %d", b, s, k, i)
					}
				}
			}
			if slices.Max(x.left) > 0 {
				left++
			}
		}
	}
	if part < 2000 || left < 2000 {
		t.Errorf("only %d debts break, something is left in only %d seasons", part, left)
	}
}

// richer returns a copy of a book with more cash, more barrels or a better price.
func richer(r *rand.Rand, b api.ContractBook) api.ContractBook {
	b = copied(b)
	more := func(n *int, most int) { *n = between(r, *n, min(most, *n+1+*n/2+r.IntN(30))) }
	for range between(r, 1, 3) {
		s, party := r.IntN(len(b.Seasons)), r.IntN(len(b.Cash))
		switch r.IntN(3) {
		case 0:
			more(&b.Cash[party], api.ContractCash)
		case 1:
			more(&b.Seasons[s].Barrels[party], api.ContractBarrels)
		default:
			more(&b.Seasons[s].Price, api.ContractPrice)
		}
	}
	return b
}

func TestMoreIsNeverWorse(t *testing.T) { // P8.8
	r := rand.New(rand.NewPCG(8, 8))
	more, later, saved := 0, 0, 0
	for range 3000 {
		b := anyBook(r, anySizes(r))
		better := richer(r, b)
		for s := range b.Seasons {
			x, y := tell(t, b, s), tell(t, better, s)
			for i := range b.Debts {
				if y.paid[i] < x.paid[i] || y.rounds[i] > 0 && (x.rounds[i] == 0 || y.rounds[i] < x.rounds[i]) {
					t.Fatalf("%v in the season %d: %v; but %v: %v", b, s, x, better, y)
				}
				switch {
				case y.rounds[i] > x.rounds[i]:
					later++
				case y.rounds[i] < x.rounds[i]:
					saved++
				case y.paid[i] > x.paid[i]:
					more++
				}
			}
		}
	}
	if more < 1000 || later < 50 || saved < 500 {
		t.Errorf("only %d debts are paid more of, %d break later, %d do not break any more", more, later, saved)
	}
}

// alone returns what is paid of a debt if everybody else pays whole.
func alone(b api.ContractBook, s, which int) int { return answer(b, s, whole(b))[which] }

func TestTheChain(t *testing.T) { // P8.9
	r := rand.New(rand.NewPCG(8, 9))
	chains := 0
	for range 2000 {
		b := anyBook(r, anySizes(r))
		for s := range b.Seasons {
			rounds := tell(t, b, s).rounds
			for i, round := range rounds {
				if round == 0 {
					continue
				}
				l, e := contract.Behind(b, s, i)
				if e != api.OK || len(l) == 0 || l[len(l)-1] != i || alone(b, s, l[0]) == b.Debts[l[0]].Due {
					t.Fatalf("%v in the season %d: behind %d are %v, %d", b, s, i, l, e)
				}
				for k := 1; k < len(l); k++ {
					if b.Debts[l[k]].From != b.Debts[l[k-1]].To || rounds[l[k]] <= rounds[l[k-1]] || rounds[l[k-1]] == 0 {
						t.Fatalf("%v in the season %d: behind %d are %v, of the rounds %v", b, s, i, l, rounds)
					}
					chains++
				}
			}
		}
	}
	if chains < 500 {
		t.Errorf("only %d debts break by others", chains)
	}
}

// The loans can be more than cash can be: what breaks then is told by the tests themselves.
func TestTheBank(t *testing.T) { // P8.10, P8.4
	r := rand.New(rand.NewPCG(8, 10))
	some, none := 0, 0
	for range 2000 {
		b := anyBook(r, anySizes(r))
		loans, e := contract.Loans(b)
		if e != api.OK || len(loans) != len(b.Cash) || slices.Min(loans) < 0 || !holds(lent(b, loans)) {
			t.Fatalf("%v: the loans %v, %d", b, loans, e)
		}
		if _, _, e := contract.Breaks(b); (e == api.ErrNone) != (slices.Max(loans) == 0) {
			t.Fatalf("%v: the loans %v, but Breaks: %d", b, loans, e)
		}
		if slices.Max(loans) == 0 {
			none++
		}
		for party := range loans {
			if loans[party] == 0 {
				continue
			}
			less := slices.Clone(loans)
			less[party]--
			if !breaksAtOnce(lent(b, less), party) {
				t.Fatalf("%v: %d are lent to %d, but with one less none of its debts breaks", b, loans[party], party)
			}
			some++
		}
	}
	if some < 1000 || none < 100 {
		t.Errorf("only %d parties are lent something, in %d books nobody is", some, none)
	}
}

// breaksAtOnce reports whether some debt of a party breaks in the round 1 of some season.
func breaksAtOnce(b api.ContractBook, party int) bool {
	for s := range b.Seasons {
		rounds, _ := broken(b, s)
		for i, d := range b.Debts {
			if d.From == party && rounds[i] == 1 {
				return true
			}
		}
	}
	return false
}

// With the loans as cash, the functions themselves tell that nothing breaks.
func TestBooksThatAreLentTo(t *testing.T) { // P8.10
	r := rand.New(rand.NewPCG(8, 100))
	tried := 0
	for range 2000 {
		b := anyBook(r, fitting())
		loans, _ := contract.Loans(b)
		full := lent(b, loans)
		if contract.Check(full) != api.OK {
			continue
		}
		tried++
		if s, d, e := contract.Breaks(full); e != api.ErrNone {
			t.Fatalf("%v with the loans %v: %d, %d, %d", b, loans, s, d, e)
		}
		if more, e := contract.Loans(full); slices.Max(more) != 0 || e != api.OK {
			t.Fatalf("%v with the loans %v: %v more, %d", b, loans, more, e)
		}
	}
	if tried < 1000 {
		t.Errorf("only %d books were tried", tried)
	}
}

// There is just one list of loans with which nothing breaks, and of which none can be less: all lists of small books are tried.
func TestTheOnlyLoans(t *testing.T) { // P8.4
	r := rand.New(rand.NewPCG(8, 4))
	lentTo := 0
	for range 600 {
		b := anyBook(r, sizes{3, 3, 2, 2, 2, 2, 1})
		most := make([]int, len(b.Cash))
		for party := range most {
			most[party] = 6
		}
		var least [][]int
		lists(most, func(l []int) {
			if holds(lent(b, l)) && !holdsWithLess(b, l) {
				least = append(least, slices.Clone(l))
			}
		})
		loans, e := contract.Loans(b)
		if e != api.OK || len(least) != 1 || !slices.Equal(loans, least[0]) {
			t.Fatalf("%v: the loans %v, %d, not %v", b, loans, e, least)
		}
		if slices.Max(loans) > 0 {
			lentTo++
		}
	}
	if lentTo < 100 {
		t.Errorf("something is lent in only %d books", lentTo)
	}
}

// holdsWithLess reports whether no debt breaks with one less to some party that is lent something.
func holdsWithLess(b api.ContractBook, loans []int) bool {
	for party, n := range loans {
		if n == 0 {
			continue
		}
		less := slices.Clone(loans)
		less[party]--
		if holds(lent(b, less)) {
			return true
		}
	}
	return false
}
