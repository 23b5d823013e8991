package clerk_test

import (
	"cmp"
	"fmt"
	"math/rand/v2"
	"regexp"
	"slices"
	"strconv"
	"strings"

	"drifter/api"
	"drifter/brand"
	"drifter/share"
)

// cran is one that lies on the quay: of which boat, and of which landing it is.
type cran struct{ boat, landing int }

// port is a quay by the chapter's words, with maps by names, and cran by cran.
type port struct {
	set              api.ClerkSetup
	day, landings    int
	quay             []cran
	offers, costs    map[string][]int
	owed, gross, due map[string]int
	brands           []api.ClerkBrand
	journal          []string
}

func newPort(s api.ClerkSetup) *port {
	return &port{set: s, day: s.Day, offers: map[string][]int{}, costs: map[string][]int{}, owed: map[string]int{}, gross: map[string]int{}, due: map[string]int{}}
}

// forms are what lines look like: each begins with its word.
var forms = func() []*regexp.Regexp {
	var l []*regexp.Regexp
	for _, form := range []string{
		"day #", "land @ #", "offer @( #)*", "sell", "cost @ #", "settle @", "pay @ #", "paid @ #", "brand @ #( # # # #)*",
		"due @", "owes @", "quay", "price", "voyage @", "sheet", "grade # # # #",
	} {
		form = strings.ReplaceAll(strings.ReplaceAll(form, "#", "(0|[1-9][0-9]{0,5})"), "@", "[^ ]+")
		l = append(l, regexp.MustCompile(`\A`+form+`\z`))
	}
	return l
}()

func (p *port) boat(name string) int {
	return slices.IndexFunc(p.set.Boats, func(b api.ClerkBoat) bool { return b.Name == name })
}

func (p *port) buyer(name string) int { return slices.Index(p.set.Buyers, name) }

// won is an offer that wins, and whose it is.
type won struct {
	buyer string
	offer int
}

// winners hands out the crans, one by one, to whoever offers most, but nothing to one buyer.
func (p *port) winners(but string) []won {
	next := map[string]int{}
	var l []won
	for range p.quay {
		best := won{"", p.set.Least - 1}
		for _, buyer := range p.set.Buyers {
			if at := next[buyer]; buyer != but && at < len(p.offers[buyer]) && p.offers[buyer][at] > best.offer {
				best = won{buyer, p.offers[buyer][at]}
			}
		}
		if best.buyer != "" {
			l = append(l, best)
			next[best.buyer]++
		}
	}
	return l
}

// worth returns what a sale is worth to all but one buyer, and to the quay.
func (p *port) worth(l []won, but string) int {
	n := p.set.Least * (len(p.quay) - len(l))
	for _, w := range l {
		if w.buyer != but {
			n += w.offer
		}
	}
	return n
}

// split divides pence by how many crans of each boat were sold, penny by penny.
func (p *port) split(pence int, sold map[string]int) map[string]int {
	all := 0
	for _, n := range sold {
		all += n
	}
	gets, rest, left := map[string]int{}, map[string]int{}, pence
	var names []string
	for name, n := range sold {
		gets[name], rest[name] = pence*n/all, pence*n%all
		left -= gets[name]
		names = append(names, name)
	}
	slices.SortFunc(names, func(a, b string) int { return cmp.Or(rest[b]-rest[a], strings.Compare(a, b)) })
	for _, name := range names[:left] {
		gets[name]++
	}
	return gets
}

func (p *port) sell() (string, api.Errno) {
	l := p.winners("")
	if len(l) == 0 {
		return "", api.ErrClerkSale
	}
	owed, pence := map[string]int{}, 0
	for _, buyer := range p.set.Buyers {
		owed[buyer] = p.worth(p.winners(buyer), buyer) - p.worth(l, buyer)
		pence += owed[buyer]
	}
	sold := map[string]int{}
	for _, c := range p.quay[:len(l)] {
		sold[p.set.Boats[c.boat].Name]++
	}
	gets := p.split(pence, sold)
	for name, n := range gets {
		if p.gross[name]+n > 10000000 {
			return "", api.ErrFull
		}
	}
	for name, n := range gets {
		p.gross[name] += n
	}
	for name, n := range owed {
		p.owed[name] += n
	}
	p.quay, p.offers = p.quay[len(l):], map[string][]int{}
	return fmt.Sprint(len(l), pence), api.OK
}

func total(l []int) int {
	n := 0
	for _, x := range l {
		n += x
	}
	return n
}

func (p *port) settle(boat int) (string, api.Errno) {
	b := p.set.Boats[boat]
	v := b.V
	v.Gross, v.Costs = p.gross[b.Name], p.costs[b.Name]
	left := v.Gross - total(v.Costs)
	if left < 0 {
		return "", api.ErrClerkCost
	}
	shares, _ := share.Shares(v)
	for _, s := range shares {
		p.due[s.Name] += s.Boat + s.Nets + s.Crew
	}
	p.gross[b.Name], p.costs[b.Name] = 0, nil
	return strconv.Itoa(left), api.OK
}

func (p *port) offer(buyer string, l []int) (string, api.Errno) {
	switch {
	case p.buyer(buyer) < 0:
		return "", api.ErrClerkUnknown
	case len(l) > 0 && slices.Max(l) > 10000:
		return "", api.ErrRange
	case len(l) > 40:
		return "", api.ErrFull
	}
	for i := range l {
		if i > 0 && l[i] > l[i-1] {
			return "", api.ErrClerkOffer
		}
	}
	p.offers[buyer] = l
	return strconv.Itoa(len(l)), api.OK
}

func barrelsOf(l []int) []api.BrandBarrel {
	var opened []api.BrandBarrel
	for ; len(l) > 0; l = l[4:] {
		opened = append(opened, api.BrandBarrel{l[0], l[1], l[2], l[3]})
	}
	return opened
}

// clerkError returns the error that a clerk tells for one of an officer.
func clerkError(e api.Errno) api.Errno {
	if e == api.ErrBrandRule || e == api.ErrBrandOpened {
		return api.ErrClerkBrand
	}
	return e
}

func (p *port) brand(buyer string, l []int) (string, api.Errno) {
	if p.buyer(buyer) < 0 {
		return "", api.ErrClerkUnknown
	}
	which, allow, e := brand.Promise(p.set.Marks, l[0], p.set.Rule, barrelsOf(l[1:]))
	if e != api.OK {
		return "", clerkError(e)
	}
	if len(p.brands) == 40 {
		return "", api.ErrFull
	}
	p.brands = append(p.brands, api.ClerkBrand{Buyer: p.buyer(buyer), Barrels: l[0], Mark: which})
	return fmt.Sprint(which, allow), api.OK
}

// paid takes n from what somebody has in a map.
func paid(m map[string]int, name string, n int) (string, api.Errno) {
	if n == 0 {
		return "", api.ErrRange
	}
	if n > m[name] {
		return "", api.ErrClerkMoney
	}
	m[name] -= n
	return strconv.Itoa(m[name]), api.OK
}

// do does a line.
func (p *port) do(line string) (answer string, e api.Errno) {
	if len(line) > 400 || !slices.ContainsFunc(forms, func(form *regexp.Regexp) bool { return form.MatchString(line) }) {
		return "", api.ErrClerkLine
	}
	tokens := strings.Split(line, " ")
	name, from := "", 1
	if len(tokens) > 1 && tokens[0] != "day" && tokens[0] != "grade" {
		name, from = tokens[1], 2
	}
	var l []int
	for _, token := range tokens[min(from, len(tokens)):] {
		n, _ := strconv.Atoi(token)
		l = append(l, n)
	}
	if isAsked(line) {
		return p.tell(tokens[0], name, l)
	}
	if len(p.journal) == 150 {
		return "", api.ErrFull
	}
	if answer, e = p.change(tokens[0], name, l); e == api.OK {
		p.journal = append(p.journal, line)
	}
	return answer, e
}

func (p *port) change(word, name string, l []int) (string, api.Errno) {
	boat, buyer := p.boat(name), p.buyer(name)
	_, isDue := p.due[name]
	unknown := map[string]bool{"land": boat < 0, "cost": boat < 0, "settle": boat < 0, "pay": !isDue, "paid": buyer < 0}
	switch {
	case unknown[word]:
		return "", api.ErrClerkUnknown
	case word == "day" && (l[0] < p.day || l[0] > 100000), word == "land" && (l[0] < 1 || l[0] > 40), word == "cost" && l[0] < 1:
		return "", api.ErrRange
	case word == "land" && len(p.quay)+l[0] > 40, word == "cost" && len(p.costs[name]) == 10:
		return "", api.ErrFull
	}
	switch word {
	case "day":
		p.day = l[0]
	case "land":
		p.landings++
		for range l[0] {
			p.quay = append(p.quay, cran{boat, p.landings})
		}
		return strconv.Itoa(len(p.quay)), api.OK
	case "offer":
		return p.offer(name, l)
	case "sell":
		return p.sell()
	case "cost":
		p.costs[name] = append(p.costs[name], l[0])
	case "settle":
		return p.settle(boat)
	case "pay":
		return paid(p.due, name, l[0])
	case "paid":
		return paid(p.owed, name, l[0])
	case "brand":
		return p.brand(name, l)
	}
	return "", api.OK
}

func (p *port) tell(word, name string, l []int) (string, api.Errno) {
	due, isDue := p.due[name]
	unknown := map[string]bool{"due": !isDue, "owes": p.buyer(name) < 0, "voyage": p.boat(name) < 0}
	if unknown[word] {
		return "", api.ErrClerkUnknown
	}
	switch word {
	case "due":
		return strconv.Itoa(due), api.OK
	case "owes":
		return strconv.Itoa(p.owed[name]), api.OK
	case "quay":
		return strconv.Itoa(len(p.quay)), api.OK
	case "price":
		all := p.winners("")
		if len(all) == 0 {
			return "", api.ErrNone
		}
		return strconv.Itoa(all[len(all)-1].offer), api.OK
	case "voyage":
		return fmt.Sprint(p.gross[name], total(p.costs[name])), api.OK
	case "grade":
		which, e := brand.Grade(p.set.Marks, barrelsOf(l)[0])
		if e != api.OK {
			return "", clerkError(e)
		}
		return strconv.Itoa(which), api.OK
	}
	sheet := "-"
	for _, d := range p.dues() {
		if d.Sum > 0 {
			sheet = strings.TrimPrefix(sheet+" "+d.Name+" "+strconv.Itoa(d.Sum), "- ")
		}
	}
	return sheet, api.OK
}

func (p *port) dues() []api.ClerkDue {
	l := []api.ClerkDue{}
	for name, n := range p.due {
		l = append(l, api.ClerkDue{Name: name, Sum: n})
	}
	slices.SortFunc(l, func(a, b api.ClerkDue) int { return strings.Compare(a.Name, b.Name) })
	return l
}

// state is what a quay should tell of itself.
func (p *port) state() state {
	x := state{day: p.day, landings: []api.ClerkLanding{}, dues: p.dues(), brands: list(p.brands), journal: list(p.journal), file: text(p.journal...)}
	last := 0
	for _, c := range p.quay {
		if c.landing != last {
			last = c.landing
			x.landings = append(x.landings, api.ClerkLanding{Boat: c.boat})
		}
		x.landings[len(x.landings)-1].Crans++
	}
	for _, buyer := range p.set.Buyers {
		x.owed = append(x.owed, p.owed[buyer])
	}
	for _, b := range p.set.Boats {
		x.gross = append(x.gross, p.gross[b.Name])
		a, _ := p.do("voyage " + b.Name)
		x.voyages = append(x.voyages, a)
	}
	x.price, x.priceError = p.do("price")
	return x
}

func between(r *rand.Rand, low, high int) int { return low + r.IntN(high-low+1) }

func oneOf[T any](r *rand.Rand, l ...T) T { return l[r.IntN(len(l))] }

// anyStakes returns some stakes of a few names, so that many have more than one.
func anyStakes(r *rand.Rand) []api.ShareStake {
	var l []api.ShareStake
	for _, name := range []string{"adam", "bob-9", "bob", "curer", "drift", "z"} {
		if r.IntN(3) == 0 {
			l = append(l, stake(name, between(r, 0, oneOf(r, 3, 20, 1000))))
		}
	}
	r.Shuffle(len(l), func(i, k int) { l[i], l[k] = l[k], l[i] })
	return l
}

func anyVoyage(r *rand.Rand) api.ShareVoyage {
	for {
		boat := between(r, 0, 8)
		nets := between(r, 0, 8-boat)
		v := api.ShareVoyage{Boat: boat, Nets: nets, Crew: 8 - boat - nets, Owners: anyStakes(r), Lenders: anyStakes(r), Hands: anyStakes(r)}
		for range r.IntN(3) {
			if n := len(v.Lenders); n > 1 {
				v.Loans = append(v.Loans, api.ShareLoan{From: v.Lenders[r.IntN(n)].Name, To: v.Lenders[r.IntN(n)].Name, Nets: between(r, 1, 5), Rent: between(r, 0, 8)})
			}
		}
		if share.Check(v) == api.OK {
			return v
		}
	}
}

func anySetup(r *rand.Rand) api.ClerkSetup {
	s := setup()
	boats, buyers := []string{"drift", "lugger", "zulu", "a-1"}, []string{"curer", "klondyker", "kiln", "drift", "b", "a", "c0", "c-0"}
	r.Shuffle(len(boats), func(i, k int) { boats[i], boats[k] = boats[k], boats[i] })
	r.Shuffle(len(buyers), func(i, k int) { buyers[i], buyers[k] = buyers[k], buyers[i] })
	s.Boats = nil
	for _, name := range boats[:between(r, 1, 4)] {
		s.Boats = append(s.Boats, api.ClerkBoat{Name: name, V: anyVoyage(r)})
	}
	s.Buyers = buyers[:between(r, 1, 8)]
	s.Least, s.Day = oneOf(r, 0, 1, 4, 10, 10000), oneOf(r, 0, 100, 99990)
	if r.IntN(2) == 0 {
		anyLot(&s)
	}
	return s
}

// anyOffers returns the numbers of offers, most of which do not increase.
func anyOffers(r *rand.Rand) []string {
	var l []int
	for range oneOf(r, 0, 1, 2, 3, 5, 20, 39, 40, 41) {
		l = append(l, between(r, 0, oneOf(r, 5, 30, 30, 10000)))
	}
	if r.IntN(10) > 0 {
		slices.SortFunc(l, func(a, b int) int { return b - a })
	}
	if r.IntN(30) == 0 {
		l = append(l, 10001)
	}
	var tokens []string
	for _, n := range l {
		tokens = append(tokens, strconv.Itoa(n))
	}
	return tokens
}

// anyLine returns a line that most often does something.
func anyLine(r *rand.Rand, s api.ClerkSetup) string {
	boat, buyer := s.Boats[r.IntN(len(s.Boats))].Name, s.Buyers[r.IntN(len(s.Buyers))]
	if r.IntN(30) == 0 {
		boat, buyer = oneOf(r, "nobody", buyer), oneOf(r, "nobody", boat)
	}
	person := oneOf(r, "adam", "bob", "bob-9", "curer", "drift", "z", "nobody")
	number := func(most int) string { return strconv.Itoa(between(r, 0, most)) }
	lot := func() string {
		line := "brand " + buyer + " " + number(oneOf(r, 12, 41))
		for range oneOf(r, 0, 1, 3, 6, 6, 8) {
			line += oneOf(r, full, full, full, full, mattie, spent, oneOf(r, full, " 0 0 0 1001"))
		}
		return line
	}
	all := []func() string{
		func() string { return "day " + strconv.Itoa(s.Day+between(r, 0, 12)) },
		func() string { return "land " + boat + " " + number(oneOf(r, 3, 10, 41)) },
		func() string { return "land " + boat + " " + number(5) },
		func() string { return strings.Join(append([]string{"offer", buyer}, anyOffers(r)...), " ") },
		func() string { return strings.Join(append([]string{"offer", buyer}, anyOffers(r)...), " ") },
		func() string { return strings.Join(append([]string{"offer", buyer}, anyOffers(r)...), " ") },
		func() string { return "sell" }, func() string { return "sell" },
		func() string { return "cost " + boat + " " + number(oneOf(r, 2, 50, 999999)) },
		func() string { return "settle " + boat },
		func() string { return "pay " + person + " " + number(oneOf(r, 3, 30, 999999)) },
		func() string { return "paid " + buyer + " " + number(oneOf(r, 3, 30, 999999)) },
		lot,
		func() string { return "due " + person }, func() string { return "owes " + buyer },
		func() string { return oneOf(r, "quay", "price", "sheet") }, func() string { return "voyage " + boat },
		func() string { return "grade" + oneOf(r, full, mattie, spent, " 0 0 0 1001") },
	}
	return oneOf(r, all...)()
}

// spoilt returns a line with a byte more, less, or another one.
func spoilt(r *rand.Rand, line string) string {
	at := r.IntN(len(line))
	b := string([]byte{oneOf[byte](r, ' ', '0', '1', '9', 'a', 'd', 'y', '-', '\t', 0, 200)})
	return line[:at] + oneOf(r, b, "", b+line[at:at+1]) + line[at+1:]
}

// anyLines returns lines some of which are spoilt.
func anyLines(r *rand.Rand, s api.ClerkSetup, n int) []string {
	var l []string
	for range n {
		line := anyLine(r, s)
		if r.IntN(20) == 0 {
			line = spoilt(r, line)
		}
		l = append(l, line)
	}
	return l
}
