package share_test

import (
	"math/rand/v2"
	"slices"
	"testing"

	"drifter/api"
	"drifter/share"
)

// parts returns the parts of the boat, the nets and the crew.
func parts(t *testing.T, v api.ShareVoyage) [3]int {
	t.Helper()
	a, b, c, e := share.Parts(v)
	if e != api.OK {
		t.Fatalf("%v: %d", v, e)
	}
	return [3]int{a, b, c}
}

// got returns what a name gets of the three parts.
func got(d api.ShareDue) [3]int { return [3]int{d.Boat, d.Nets, d.Crew} }

func shares(t *testing.T, v api.ShareVoyage) []api.ShareDue {
	t.Helper()
	l, e := share.Shares(v)
	if e != api.OK {
		t.Fatalf("%v: %d", v, e)
	}
	return l
}

// stakes returns the weights by which the three parts are divided, by their names.
func stakes(v api.ShareVoyage) [3]map[string]int {
	claims, _ := share.Claims(v)
	by := [3]map[string]int{{}, {}, {}}
	for _, s := range v.Owners {
		by[0][s.Name] = s.Weight
	}
	for i, s := range v.Lenders {
		by[1][s.Name] = claims[i]
	}
	for _, s := range v.Hands {
		by[2][s.Name] = s.Weight
	}
	return by
}

func TestThePenny(t *testing.T) { // P3.7
	each(2000, func(_ *rand.Rand, v api.ShareVoyage) {
		left := v.Gross
		for _, cost := range v.Costs {
			left -= cost
		}
		dues, whole := shares(t, v), parts(t, v)
		for i, stakes := range stakes(v) {
			all, together := 0, 0
			for _, w := range stakes {
				all += w
			}
			for _, d := range dues {
				pence, w := got(d)[i], stakes[d.Name]
				together += pence
				// less than a penny from the exact share, that is from whole times w by all
				if off := pence*all - whole[i]*w; whole[i] > 0 && (off <= -all || off >= all) || whole[i] == 0 && pence != 0 {
					t.Errorf("%v: %v of %v, with %d of %d", v, d, whole, w, all)
				}
				for _, other := range dues {
					if w > stakes[other.Name] && pence < got(other)[i] {
						t.Errorf("%v: %v has more than %v, and gets less", v, d, other)
					}
				}
			}
			if together != whole[i] {
				t.Errorf("%v: together %d of the part %d of %v", v, together, i, whole)
			}
			left -= together
		}
		if left != 0 {
			t.Errorf("%v: %d are left", v, left)
		}
	})
}

func mix[T any](r *rand.Rand, l []T) { r.Shuffle(len(l), func(i, j int) { l[i], l[j] = l[j], l[i] }) }

func TestTheOrder(t *testing.T) { // P3.8
	each(1000, func(r *rand.Rand, v api.ShareVoyage) {
		m := deep(v)
		mix(r, m.Owners)
		mix(r, m.Lenders)
		mix(r, m.Hands)
		mix(r, m.Loans)
		if a, b := shares(t, v), shares(t, m); !slices.Equal(a, b) {
			t.Errorf("%v: %v; in another order %v", v, a, b)
		}
		l := slices.Clone(v.Hands)
		mix(r, l)
		a, _ := share.Divide(v.Gross, v.Hands)
		b, _ := share.Divide(v.Gross, l)
		for i, s := range v.Hands {
			if k := slices.Index(l, s); a[i] != b[k] {
				t.Errorf("Divide of %d: %v %v; %v %v", v.Gross, v.Hands, a, l, b)
			}
		}
	})
}

func TestTheLoan(t *testing.T) { // P3.9
	more := 0
	each(2000, func(r *rand.Rand, v api.ShareVoyage) {
		claims, e := share.Claims(v)
		together, nets := 0, 0
		for i, s := range v.Lenders {
			together += claims[i]
			nets += s.Weight
		}
		if together != 8*nets || e != api.OK {
			t.Errorf("%v: the claims %v of %d nets, %d", v, claims, nets, e)
		}
		for _, l := range anyLoans(r, v.Lenders, 2) {
			back := deep(v)
			back.Loans = append(back.Loans, l, loan(l.To, l.From, l.Nets, l.Rent))
			if again, e := share.Claims(back); !slices.Equal(again, claims) || e != api.OK {
				t.Errorf("%v: %v, %d; before that %v", back, again, e, claims)
			}
			dear := deep(v)
			l.Rent = api.ShareEighth
			dear.Loans = append(dear.Loans, l)
			if again, e := share.Claims(dear); e == api.OK {
				more++
				if !slices.Equal(again, claims) {
					t.Errorf("%v: %v; before that %v", dear, again, claims)
				}
			}
		}
	})
	if more < 100 {
		t.Errorf("only %d loans at 8 eighths are right", more)
	}
}

// heavier returns stakes that weigh so many times as much.
func heavier(l []api.ShareStake, times int) []api.ShareStake {
	l = slices.Clone(l)
	for i := range l {
		l[i].Weight *= times
	}
	return l
}

// mostTimes returns how many times as much all can weigh.
func mostTimes(lists ...[]api.ShareStake) int {
	greatest := 1
	for _, s := range slices.Concat(lists...) {
		greatest = max(greatest, s.Weight)
	}
	return api.ShareWeight / greatest
}

func TestWeightsThatAreGreater(t *testing.T) { // P3.10
	each(1000, func(r *rand.Rand, v api.ShareVoyage) {
		times := between(r, 1, mostTimes(v.Owners, v.Lenders, v.Hands))
		m := deep(v)
		m.Owners, m.Lenders, m.Hands = heavier(v.Owners, times), heavier(v.Lenders, times), heavier(v.Hands, times)
		for i := range m.Loans {
			m.Loans[i].Nets *= times // nets are what lenders weigh
			if m.Loans[i].Nets > 1000 {
				return
			}
		}
		if a, b := shares(t, v), shares(t, m); !slices.Equal(a, b) {
			t.Errorf("%v: %v; %d times %v", v, a, times, b)
		}
		a, _ := share.Divide(v.Gross, v.Hands)
		if b, e := share.Divide(v.Gross, m.Hands); !slices.Equal(a, b) || e != api.OK {
			t.Errorf("Divide of %d, %v: %v; %d times %v, %d", v.Gross, v.Hands, a, times, b, e)
		}
	})
}

// No clearing has fewer payments than Clear: all those of small sums are tried.
func TestTheClearing(t *testing.T) { // P3.11
	r := rand.New(rand.NewPCG(11, 3))
	for range 60 {
		l := anyBalances(r, 4, 4)
		var four [4]int
		open := 0
		for i, n := range l {
			four[i] = n
			if n != 0 {
				open++
			}
		}
		fewest := fewestPayments(four)
		payments, e := share.Clear(l)
		groups, _ := share.Groups(l)
		if len(payments) != fewest || open-len(groups) != fewest || !isClearing(l, payments) || e != api.OK {
			t.Errorf("%v: %v, %d, and %v; not %d", l, payments, e, groups, fewest)
		}
	}
}

func TestPennyMore(t *testing.T) { // P3.12
	r := rand.New(rand.NewPCG(12, 3))
	less := 0
	for range 3000 {
		pence, l := anySum(r)%api.ShareSum, anyBacked(r)
		a, e := share.Divide(pence, l)
		b, f := share.Divide(pence+1, l)
		for i := range l {
			if e != api.OK || f != api.OK || b[i] > a[i]+1 {
				t.Errorf("%d by %v: %v, %d; a penny more: %v, %d", pence, l, a, e, b, f)
			}
			if b[i] < a[i] {
				less++
			}
		}
	}
	if less == 0 {
		t.Error("nobody gets less of more: that is not how pennies are given out")
	}
}

// With eighths no part loses a penny when there is one more: so nobody gets two more, whatever stakes they have.
func TestPennyMoreOfAVoyage(t *testing.T) { // P3.12
	total := func(d api.ShareDue) int { return d.Boat + d.Nets + d.Crew }
	each(2000, func(_ *rand.Rand, v api.ShareVoyage) {
		v.Gross = min(v.Gross, api.ShareSum-1)
		if share.Check(v) != api.OK {
			return
		}
		more := deep(v)
		more.Gross++
		a, b := shares(t, v), shares(t, more)
		was, is := parts(t, v), parts(t, more)
		for i := range was {
			if is[i] < was[i] || is[i] > was[i]+1 {
				t.Errorf("%v: the parts %v; of a penny more %v", v, was, is)
			}
		}
		for i := range a {
			if total(b[i]) > total(a[i])+1 {
				t.Errorf("%v: %v; of a penny more %v", v, a[i], b[i])
			}
		}
	})
}

func TestPennyMoreByAllEighths(t *testing.T) { // P3.12
	all := []api.ShareStake{stake("all", 1)}
	for boat := range 9 {
		for nets := range 9 - boat {
			// what is left over repeats itself every eight pence
			for gross := range 16 {
				v := api.ShareVoyage{Gross: gross, Boat: boat, Nets: nets, Crew: 8 - boat - nets, Owners: all, Lenders: all, Hands: all}
				was := parts(t, v)
				v.Gross++
				for i, pence := range parts(t, v) {
					if pence < was[i] || pence > was[i]+1 {
						t.Errorf("%v: %d of the part %d; before that %d", v, pence, i, was[i])
					}
				}
			}
		}
	}
}
