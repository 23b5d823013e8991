package stock_test

import (
	"math/rand/v2"
	"slices"
	"testing"

	"drifter/api"
	"drifter/stock"
)

// trueAges returns an age for each fish of some groups: one that choose takes of all that its group can have.
func trueAges(l []api.StockScale, choose func(ages []int) int) []int {
	var ages []int
	for _, s := range l {
		var all []int
		for age := s.Age.Low; age <= s.Age.High; age++ {
			all = append(all, age)
		}
		for range s.Seen {
			ages = append(ages, choose(all))
		}
	}
	return ages
}

func TestTheScales(t *testing.T) { // P9.8
	r := rand.New(rand.NewPCG(9, 8))
	apart, sure := 0, 0
	for range 3000 {
		l := anyScales(r, 20, 40, 20)
		from := between(r, 0, 20)
		last := between(r, from, 20)
		s, e := stock.Aged(l, from, last)
		if e != api.OK {
			t.Fatalf("Aged of %v, %d, %d: %d", l, from, last, e)
		}
		for range 3 {
			ages := trueAges(l, func(all []int) int { return all[r.IntN(len(all))] })
			if n := counted(ages, from, last); n < s.Low || n > s.High {
				t.Fatalf("Aged of %v, %d, %d: %v, but %d can be", l, from, last, s, n)
			}
		}
		// a fish is of the ages that are asked for, or is not, if it can be so
		asked := func(is bool) func(all []int) int {
			return func(all []int) int {
				i := slices.IndexFunc(all, func(age int) bool { return (age >= from && age <= last) == is })
				return all[max(0, i)]
			}
		}
		if low, high := counted(trueAges(l, asked(false)), from, last), counted(trueAges(l, asked(true)), from, last); s != to(low, high) {
			t.Fatalf("Aged of %v, %d, %d: %v, but %d and %d can be", l, from, last, s, low, high)
		}
		if s.Low < s.High {
			apart++
		}
		if s.Low > 0 {
			sure++
		}
	}
	if apart < 1000 || sure < 1000 {
		t.Errorf("only %d numbers are in doubt, %d fish are sure", apart, sure)
	}
}

// trueMixing is a mixing, and for each race the share of its fish that have each sign, within its signs.
func trueMixing(r *rand.Rand, races [][]api.Span) (mixing []int, mixed []int) {
	left := 100
	for race := range races {
		n := between(r, 0, left)
		if race == len(races)-1 {
			n = left
		}
		mixing = append(mixing, n)
		left -= n
	}
	mixed = make([]int, len(races[0]))
	for race, l := range races {
		for sign, s := range l {
			mixed[sign] += mixing[race] * between(r, s.Low, s.High)
		}
	}
	return mixing, mixed
}

func TestTheRaces(t *testing.T) { // P9.9
	r := rand.New(rand.NewPCG(9, 9))
	told := 0
	for range 2000 {
		races, seen := anySigns(r)
		mixing, mixed := trueMixing(r, races)
		for sign, n := range mixed { // n of 10000 fish have the sign
			seen[sign] = to(between(r, max(0, n/100-20), n/100), between(r, (n+99)/100, min(100, n/100+20)))
		}
		l, e := stock.Shares(races, seen)
		if e != api.OK || len(l) != len(races) {
			t.Fatalf("Shares of %v, %v: %v, %d, but %v are so", races, seen, l, e, mixing)
		}
		for race, n := range mixing {
			if n < l[race].Low || n > l[race].High {
				t.Fatalf("Shares of %v, %v: %v, but %v are so", races, seen, l, mixing)
			}
		}
		if len(races) > 1 && l[0].High-l[0].Low < 60 {
			told++
		}
	}
	if told < 500 {
		t.Errorf("only %d shares are told well", told)
	}
}

func TestTheEndsOfTheRaces(t *testing.T) { // P9.9
	r := rand.New(rand.NewPCG(9, 99))
	ends := 0
	for range 300 {
		races, seen := anySigns(r)
		l, e := stock.Shares(races, seen)
		if e != api.OK {
			continue
		}
		all := mixings(races, seen)
		for race, s := range l {
			for _, end := range []int{s.Low, s.High} {
				if !slices.ContainsFunc(all, func(m []int) bool { return m[race] == end }) {
					t.Fatalf("Shares of %v, %v: %v, but no mixing has %d of the race %d", races, seen, l, end, race)
				}
				ends++
			}
		}
	}
	if ends < 500 {
		t.Errorf("only %d ends", ends)
	}
}

// wider returns a span in which another one lies.
func wider(r *rand.Rand, s api.Span) api.Span {
	return to(max(0, s.Low-r.IntN(8)), min(100, s.High+r.IntN(8)))
}

func TestWiderSpans(t *testing.T) { // P9.9
	r := rand.New(rand.NewPCG(9, 999))
	more, now := 0, 0
	for range 2000 {
		races, seen := anySigns(r)
		l, e := stock.Shares(races, seen)
		races, seen = deep(races), slices.Clone(seen)
		for range between(r, 1, 4) {
			sign, race := r.IntN(len(seen)), r.IntN(len(races))
			seen[sign] = wider(r, seen[sign])
			races[race][sign] = wider(r, races[race][sign])
		}
		m, f := stock.Shares(races, seen)
		if e != api.OK {
			if f == api.OK {
				now++
			}
			continue
		}
		if f != api.OK {
			t.Fatalf("Shares of the wider %v, %v: %d", races, seen, f)
		}
		for race := range l {
			if m[race].Low > l[race].Low || m[race].High < l[race].High {
				t.Fatalf("Shares of the wider %v, %v: %v, not %v", races, seen, m, l)
			}
		}
		if !slices.Equal(l, m) {
			more++
		}
	}
	if more < 500 || now < 20 {
		t.Errorf("only %d shares become wider, %d mixtures can be then", more, now)
	}
}

func TestTakesAndRecruits(t *testing.T) { // P9.10
	r := rand.New(rand.NewPCG(9, 10))
	fewer := 0
	for range 5000 {
		most := []int{3, 60, 400, 100000}[r.IntN(4)]
		x, years := anyRace(r, between(r, 1, 6), most), between(r, 1, 10)
		takes, recruits := numbers(r, years, 0, r.IntN(most)), numbers(r, years, 0, r.IntN(most))
		l, e := stock.Play(x, takes, recruits)
		takes, recruits = slices.Clone(takes), slices.Clone(recruits)
		for range between(r, 1, 3) {
			year := r.IntN(years)
			if r.IntN(2) == 0 {
				takes[year] += r.IntN(most)
			} else {
				recruits[year] = between(r, 0, recruits[year])
			}
		}
		m, f := stock.Play(x, takes, recruits)
		if e != api.OK || f != api.OK {
			t.Fatalf("Play of %v: %d, %d", x, e, f)
		}
		for year := range l {
			if m[year] > l[year] {
				t.Fatalf("Play of %v, %v, %v: %v, which are more than %v", x, takes, recruits, m, l)
			}
		}
		if !slices.Equal(l, m) {
			fewer++
		}
	}
	if fewer < 2000 {
		t.Errorf("only %d races have fewer spawners", fewer)
	}
}

// breaksBefore returns how many races break with a quota before some place, as Play tells it; and whether the one at this place does.
func breaksBefore(t *testing.T, f api.StockFishery, quota int, at breach) (before int, is bool) {
	t.Helper()
	for race, r := range f.Races {
		for season, recruits := range f.Seasons {
			l, e := stock.Play(r, takesOf(f, race, quota), recruits[race])
			if e != api.OK {
				t.Fatalf("Play of %v: %d", r, e)
			}
			for year, n := range l {
				here := breach{race, season, year}
				if n >= r.Line {
					continue
				}
				if here == at {
					is = true
				}
				if year < at.year || year == at.year && (race < at.race || race == at.race && season < at.season) {
					before++
				}
			}
		}
	}
	return before, is
}

func TestTheQuota(t *testing.T) { // P9.11, P9.4, P9.5
	r := rand.New(rand.NewPCG(9, 11))
	nowhere := breach{year: 11}
	next := 0
	for range 1500 {
		f := anyFishery(r, []int{5, 40, 150, 10000}[r.IntN(4)])
		quota, e := stock.Quota(f)
		if e == api.ErrNone {
			quota = -1
		}
		for _, lesser := range []int{quota, quota - 1, r.IntN(quota + 2)} {
			if lesser < 0 || lesser > quota {
				continue
			}
			race, season, year, e := stock.First(f, lesser)
			if n, _ := breaksBefore(t, f, lesser, nowhere); n > 0 || e != api.ErrNone {
				t.Fatalf("%v has the quota %d, but with %d %d break: %d, %d, %d, %d", f, quota, lesser, n, race, season, year, e)
			}
		}
		if quota == 10000 {
			continue
		}
		for _, greater := range []int{quota + 1, between(r, quota+1, 10000)} {
			race, season, year, e := stock.First(f, greater)
			if n, is := breaksBefore(t, f, greater, breach{race, season, year}); n > 0 || !is || e != api.OK {
				t.Fatalf("First of %v with %d: %d, %d, %d, %d, but %d break before", f, greater, race, season, year, e, n)
			}
		}
		next++
	}
	if next < 1000 {
		t.Errorf("only %d quotas are less than all", next)
	}
}

// kinder returns a copy of a fishery with something that makes no quota less.
func kinder(r *rand.Rand, f api.StockFishery) api.StockFishery {
	f = copied(f)
	for range between(r, 1, 3) {
		race := r.IntN(len(f.Races))
		x := &f.Races[race]
		age := r.IntN(len(x.Keep))
		switch r.IntN(5) {
		case 0:
			recruits := f.Seasons[r.IntN(len(f.Seasons))][race]
			recruits[r.IntN(len(recruits))] += r.IntN(100)
		case 1:
			x.Line = between(r, x.Line/2, x.Line)
		case 2:
			x.Keep[age] = between(r, x.Keep[age], 1000)
		case 3:
			x.Spawn[age] = min(100, x.Spawn[age]+r.IntN(3))
		default:
			f.Most[race] = between(r, f.Most[race]/2, f.Most[race])
		}
	}
	return f
}

// quotaOrNone returns the quota of a fishery, or -1 if none holds.
func quotaOrNone(t *testing.T, f api.StockFishery) int {
	t.Helper()
	n, e := stock.Quota(f)
	if e == api.ErrNone {
		return -1
	}
	if e != api.OK {
		t.Fatalf("Quota of %v: %d", f, e)
	}
	return n
}

func TestKinderFisheries(t *testing.T) { // P9.12
	r := rand.New(rand.NewPCG(9, 12))
	more, now := 0, 0
	for range 4000 {
		f := anyFishery(r, []int{5, 40, 150, 10000}[r.IntN(4)])
		better := kinder(r, f)
		n, m := quotaOrNone(t, f), quotaOrNone(t, better)
		if m < n {
			t.Fatalf("the quota of %v is %d, but %d of %v", f, n, m, better)
		}
		if m > n {
			more++
		}
		if m > n && n == -1 {
			now++
		}
	}
	if more < 1000 || now < 30 {
		t.Errorf("only %d quotas become greater, %d are some then", more, now)
	}
}

func TestOneMoreSeason(t *testing.T) { // P9.12
	r := rand.New(rand.NewPCG(9, 120))
	less, never := 0, 0
	for range 4000 {
		f := anyFishery(r, []int{5, 40, 150, 10000}[r.IntN(4)])
		if len(f.Seasons) == 6 {
			continue
		}
		n := quotaOrNone(t, f)
		more := copied(f)
		more.Seasons = append(more.Seasons, deep(f.Seasons[r.IntN(len(f.Seasons))]))
		for _, recruits := range more.Seasons[len(f.Seasons)] {
			recruits[r.IntN(len(recruits))] /= 8
		}
		r.Shuffle(len(more.Seasons), func(i, k int) { more.Seasons[i], more.Seasons[k] = more.Seasons[k], more.Seasons[i] })
		m := quotaOrNone(t, more)
		if m > n {
			t.Fatalf("the quota of %v is %d, but %d with a season more, of %v", f, n, m, more)
		}
		if m < n {
			less++
		}
		if m == -1 && n > -1 {
			never++
		}
	}
	if less < 50 || never < 5 {
		t.Errorf("only %d quotas become less, %d none", less, never)
	}
}

func TestTheBoxes(t *testing.T) { // P9.13
	r := rand.New(rand.NewPCG(9, 13))
	dearer := 0
	for range 1500 {
		sea, own := anySea(r, []int{2, 5, 10000}[r.IntN(3)])
		most := between(r, 0, 8)
		l, spared, lost, e := stock.Boxes(sea, own, most)
		all := closures(sea, own, most)
		told := slices.IndexFunc(all, func(c closure) bool { return slices.Equal(c.boxes, l) })
		if e != api.OK || told < 0 || all[told].spared != spared || all[told].lost != lost {
			t.Fatalf("Boxes of %v, %v, %d: %v, %d, %d, %d", sea, own, most, l, spared, lost, e)
		}
		for _, c := range all {
			if c.spared > spared || c.spared == spared && c.lost < lost {
				t.Fatalf("Boxes of %v, %v, %d: %v, %d, %d, but %v", sea, own, most, l, spared, lost, c)
			}
			if c.spared == spared && c.lost > lost {
				dearer++
			}
		}
	}
	if dearer < 1000 {
		t.Errorf("only %d choices spare as much, and lose more", dearer)
	}
}
