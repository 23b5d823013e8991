package clerk_test

import (
	"math/rand/v2"
	"reflect"
	"slices"
	"strconv"
	"strings"
	"testing"

	"drifter/api"
	"drifter/brand"
	"drifter/clerk"
	"drifter/share"
)

// A quay does what the chapter says, line by line.
func TestAnyLines(t *testing.T) { // P11.2, P11.3, P11.10, P1, R2
	r := rand.New(rand.NewPCG(11, 2))
	met, done := map[api.Errno]int{}, map[string]int{}
	for range 250 {
		s := anySetup(r)
		q, p := newQuay(t, s), newPort(s)
		for _, line := range anyLines(r, s, between(r, 1, 400)) {
			a, e := q.Do(line)
			wantA, wantE := p.do(line)
			if a != wantA || e != wantE {
				t.Fatalf("after %q, %q: %q, %d, not %q, %d", q.Journal(), line, a, e, wantA, wantE)
			}
			if r.IntN(10) == 0 && !reflect.DeepEqual(stateOf(q, s), p.state()) {
				t.Fatalf("after %q, and %q, the quay is\n%v, not\n%v", q.Journal(), line, stateOf(q, s), p.state())
			}
			met[e]++
			if e == api.OK {
				word, _, _ := strings.Cut(line, " ")
				done[word]++
			}
		}
		if got, want := stateOf(q, s), p.state(); !reflect.DeepEqual(got, want) {
			t.Fatalf("after %q the quay is\n%v, not\n%v", q.Journal(), got, want)
		}
	}
	for _, e := range []api.Errno{api.OK, api.ErrNone, api.ErrFull, api.ErrRange, api.ErrClerkLine, api.ErrClerkUnknown, api.ErrClerkSale, api.ErrClerkOffer, api.ErrClerkCost, api.ErrClerkMoney, api.ErrClerkBrand} {
		if met[e] < 50 {
			t.Errorf("the error %d was met %d times", e, met[e])
		}
	}
	for _, line := range formed() {
		if word, _, _ := strings.Cut(line, " "); done[word] < 50 {
			t.Errorf("%q was done %d times", word, done[word])
		}
	}
}

// Bytes of any kind are no line, but for the few that are.
func TestAnyBytes(t *testing.T) { // P11.2, P1
	r := rand.New(rand.NewPCG(11, 1))
	s := setup()
	q, p := newQuay(t, s), newPort(s)
	for range 20000 {
		line := make([]byte, r.IntN(20))
		for i := range line {
			line[i] = byte(r.IntN(256))
		}
		said := string(line)
		if r.IntN(2) == 0 {
			said = oneOf(r, formed()...)
			for range r.IntN(3) {
				said = spoilt(r, said+" ")
			}
		}
		a, e := q.Do(said)
		if wantA, wantE := p.do(said); a != wantA || e != wantE {
			t.Fatalf("%q: %q, %d, not %q, %d", said, a, e, wantA, wantE)
		}
		if q2, _, e := clerk.Open(s, said+"\n"); (q2 == nil) == (e == api.OK) {
			t.Fatalf("Open of %q: %d", said, e)
		}
	}
}

func TestTheSeason(t *testing.T) { // P11.6, P11.4
	r := rand.New(rand.NewPCG(11, 6))
	for range 150 {
		s := anySetup(r)
		q := newQuay(t, s)
		for _, line := range anyLines(r, s, between(r, 1, 250)) {
			q.Do(line)
		}
		other, at, e := clerk.Open(s, q.File())
		if e != api.OK || at != len(q.Journal()) {
			t.Fatalf("Open of %q: %d, %d", q.File(), at, e)
		}
		isTheSame(t, s, q, other)
		// also what does not show yet is the same: both go on alike
		for _, line := range anyLines(r, s, 50) {
			a, e := q.Do(line)
			if b, f := other.Do(line); a != b || e != f {
				t.Fatalf("%q: %q, %d, then %q, %d", line, a, e, b, f)
			}
		}
		isTheSame(t, s, q, other)
	}
}

// A line that is an error, or asks, changes nothing: without it all others are answered the same.
func TestLinesThatChangeNothing(t *testing.T) { // P11.10, R2
	r := rand.New(rand.NewPCG(11, 10))
	for range 150 {
		s := anySetup(r)
		q := newQuay(t, s)
		type told struct {
			said
			state state
		}
		var l []told
		for _, line := range anyLines(r, s, between(r, 1, 200)) {
			before := stateOf(q, s)
			a, e := q.Do(line)
			switch {
			case e != api.OK && a != "":
				t.Fatalf("%q: %q, %d", line, a, e)
			case e == api.OK && !isAsked(line):
				l = append(l, told{said{line, a, e}, stateOf(q, s)})
			case !reflect.DeepEqual(stateOf(q, s), before):
				t.Fatalf("%q: %d: it was\n%v, it is\n%v", line, e, before, stateOf(q, s))
			}
		}
		other := newQuay(t, s)
		for _, x := range l {
			if a, e := other.Do(x.line); a != x.answer || e != x.e || !reflect.DeepEqual(stateOf(other, s), x.state) {
				t.Fatalf("%q: %q, %d, not %q: it is\n%v, not\n%v", x.line, a, e, x.answer, stateOf(other, s), x.state)
			}
		}
	}
}

// ledger is what was sold, settled, and so on, told by the answers alone.
type ledger struct{ sold, taken, settled, divided, spent, paid int }

// add adds a line that was done. The gross and the costs are those of the boat before it.
func (l *ledger) add(line, answer, voyage string) {
	tokens, parts, earned := strings.Fields(line), strings.Fields(answer), strings.Fields(voyage)
	number := func(l []string, at int) int {
		n, _ := strconv.Atoi(l[at])
		return n
	}
	switch tokens[0] {
	case "sell":
		l.sold += number(parts, 1)
	case "paid":
		l.taken += number(tokens, 2)
	case "pay":
		l.paid += number(tokens, 2)
	case "settle":
		l.settled += number(earned, 0)
		l.spent += number(earned, 1)
		l.divided += number(parts, 0)
	}
}

func totalDues(l []api.ClerkDue) int {
	n := 0
	for _, d := range l {
		n += d.Sum
	}
	return n
}

func TestTheMoney(t *testing.T) { // P11.7
	r := rand.New(rand.NewPCG(11, 7))
	var all ledger
	for range 300 {
		s := anySetup(r)
		q := newQuay(t, s)
		var l ledger
		for _, line := range anyLines(r, s, between(r, 50, 400)) {
			voyage := "0 0"
			if boat, is := strings.CutPrefix(line, "settle "); is {
				voyage, _ = q.Do("voyage " + boat)
			}
			a, e := q.Do(line)
			if e == api.OK {
				l.add(line, a, voyage)
			}
			if n := total(q.Owed()); n != l.sold-l.taken {
				t.Fatalf("after %q buyers owe %d, but of %d they paid %d", q.Journal(), n, l.sold, l.taken)
			}
			if n := total(q.Gross()); n != l.sold-l.settled {
				t.Fatalf("after %q boats have %d, but of %d are settled %d", q.Journal(), n, l.sold, l.settled)
			}
			if n := totalDues(q.Dues()); n != l.divided-l.paid || l.settled != l.divided+l.spent {
				t.Fatalf("after %q are due %d, but %v", q.Journal(), n, l)
			}
		}
		all.paid, all.taken, all.spent = all.paid+l.paid, all.taken+l.taken, all.spent+l.spent
	}
	if all.paid < 1000 || all.taken < 1000 || all.spent < 1000 {
		t.Errorf("only so much was paid out, taken in, and spent: %v", all)
	}
}

func TestTheCran(t *testing.T) { // P11.8
	r := rand.New(rand.NewPCG(11, 8))
	split, sales := 0, 0
	for range 200 {
		s := anySetup(r)
		q := newQuay(t, s)
		var queue []int // the boats of all crans that lie on the quay
		for _, line := range anyLines(r, s, between(r, 50, 400)) {
			before, owed := q.Gross(), q.Owed()
			a, e := q.Do(line)
			if e != api.OK {
				continue
			}
			tokens, parts := strings.Fields(line), strings.Fields(a)
			switch tokens[0] {
			case "land":
				boat := slices.IndexFunc(s.Boats, func(b api.ClerkBoat) bool { return b.Name == tokens[1] })
				n, _ := strconv.Atoi(tokens[2])
				queue = append(queue, slices.Repeat([]int{boat}, n)...)
			case "sell":
				n, _ := strconv.Atoi(parts[0])
				pence, _ := strconv.Atoi(parts[1])
				holdGross(t, s, before, q.Gross(), queue[:n], pence)
				if total(q.Owed())-total(owed) != pence {
					t.Fatalf("%q, but buyers owed %v, and owe %v", a, owed, q.Owed())
				}
				queue = queue[n:]
				sales++
				if l := q.Landings(); len(l) > 0 && len(queue) > 0 && len(queue) < n {
					split++
				}
			}
			var lie []int
			for _, l := range q.Landings() {
				if l.Crans < 1 {
					t.Fatalf("Landings: %v", q.Landings())
				}
				lie = append(lie, slices.Repeat([]int{l.Boat}, l.Crans)...)
			}
			if !slices.Equal(lie, queue) {
				t.Fatalf("after %q there lie %v, not %v", q.Journal(), lie, queue)
			}
		}
	}
	if split < 50 || sales < 500 {
		t.Errorf("only %d sales, %d of which leave something", sales, split)
	}
}

// holdGross holds what the boats got in a sale to how many crans of each were sold.
func holdGross(t *testing.T, s api.ClerkSetup, before, after, sold []int, pence int) {
	t.Helper()
	var stakes []api.ShareStake
	for _, b := range s.Boats {
		stakes = append(stakes, stake(b.Name, 0))
	}
	for _, boat := range sold {
		stakes[boat].Weight++
	}
	parts, e := share.Divide(pence, stakes)
	if e != api.OK {
		t.Fatalf("Divide of %d by %v: %d", pence, stakes, e)
	}
	for boat := range before {
		if after[boat]-before[boat] != parts[boat] {
			t.Fatalf("%d for %v: the gross was %v, and is %v", pence, stakes, before, after)
		}
	}
}

func TestTheOrderOfOffers(t *testing.T) { // P11.9
	r := rand.New(rand.NewPCG(11, 9))
	some := 0
	for range 500 {
		s := anySetup(r)
		var landed, offered []string
		for _, line := range anyLines(r, s, 20) {
			if strings.HasPrefix(line, "land ") {
				landed = append(landed, line)
			}
		}
		for _, buyer := range s.Buyers {
			l := []int{}
			for range r.IntN(6) {
				l = append(l, between(r, s.Least, min(s.Least+8, 10000)))
			}
			slices.SortFunc(l, func(a, b int) int { return b - a })
			line := "offer " + buyer
			for _, n := range l {
				line += " " + strconv.Itoa(n)
			}
			offered = append(offered, line)
		}
		tell := func() (l []string, x state) {
			q := newQuay(t, s)
			for _, line := range landed {
				q.Do(line)
			}
			for _, line := range offered {
				if a, e := q.Do(line); e != api.OK {
					t.Fatalf("%q: %q, %d", line, a, e)
				}
			}
			price, _ := q.Do("price")
			answer, e := q.Do("sell")
			if e == api.OK {
				some++
			}
			x = stateOf(q, s)
			// what was done before is not the same
			x.journal, x.file = nil, ""
			return []string{price, answer}, x
		}
		answers, x := tell()
		for range 5 {
			r.Shuffle(len(offered), func(i, k int) { offered[i], offered[k] = offered[k], offered[i] })
			if others, y := tell(); !slices.Equal(others, answers) || !reflect.DeepEqual(x, y) {
				t.Fatalf("%q and %q: %q, and\n%v, not %q, and\n%v", landed, offered, others, y, answers, x)
			}
		}
	}
	if some < 1000 {
		t.Errorf("only %d sales", some)
	}
}

func TestThePromise(t *testing.T) { // P11.10
	r := rand.New(rand.NewPCG(11, 100))
	branded := 0
	for range 150 {
		s := anySetup(r)
		q := newQuay(t, s)
		for range between(r, 1, 120) {
			line := anyLine(r, s)
			if !strings.HasPrefix(line, "brand ") {
				continue
			}
			before := q.Brands()
			a, e := q.Do(line)
			if e != api.OK {
				continue
			}
			branded++
			tokens, parts := strings.Fields(line), strings.Fields(a)
			var l []int
			for _, token := range tokens[2:] {
				n, _ := strconv.Atoi(token)
				l = append(l, n)
			}
			which, _ := strconv.Atoi(parts[0])
			allow, _ := strconv.Atoi(parts[1])
			opened := barrelsOf(l[1:])
			if keeps, e := brand.Keeps(l[0], s.Rule, api.BrandPlan{Open: len(opened), Allow: allow}); !keeps || e != api.OK {
				t.Fatalf("%q: %q, but the plan does not keep the rule", line, a)
			}
			if n := below(s.Marks[which], opened); n > allow {
				t.Fatalf("%q: %q, but %d are below", line, a, n)
			}
			want := append(before, api.ClerkBrand{Buyer: slices.Index(s.Buyers, tokens[1]), Barrels: l[0], Mark: which})
			if got := q.Brands(); !slices.Equal(got, want) {
				t.Fatalf("%q: %v, not %v", line, got, want)
			}
		}
	}
	if branded < 100 {
		t.Errorf("only %d lots are branded", branded)
	}
}

// below returns how many barrels are below a brand.
func below(m api.BrandMark, l []api.BrandBarrel) int {
	n := 0
	for _, b := range l {
		for quality, s := range m {
			if b[quality] < s.Low || b[quality] > s.High {
				n++
				break
			}
		}
	}
	return n
}
