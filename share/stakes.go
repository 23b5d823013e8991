package share

import (
	"cmp"
	"slices"

	"drifter/api"
)

func areStakes(l []api.ShareStake) bool {
	if len(l) > api.ShareStakes {
		return false
	}
	met := map[string]bool{}
	for _, s := range l {
		if !isName(s.Name) || met[s.Name] || !isIn(s.Weight, 0, api.ShareWeight) {
			return false
		}
		met[s.Name] = true
	}
	return true
}

func isName(name string) bool {
	if !isIn(len(name), 1, api.MaxName) {
		return false
	}
	for i := range len(name) {
		c := name[i]
		isLetter := 'a' <= c && c <= 'z'
		isOther := '0' <= c && c <= '9' || c == '-'
		if !isLetter && (i == 0 || !isOther) {
			return false
		}
	}
	return true
}

func weight(s api.ShareStake) int { return s.Weight }

// weights returns what all stakes weigh together.
func weights(l []api.ShareStake) int { return sum(weight, l...) }

// share is a stake by which a sum is divided, with what it gets, rounded down, and its rest.
type share struct {
	api.ShareStake
	pence, rest int
}

// division is a sum that is divided, but for the pence that are left over.
type division struct {
	shares []share
	left   int
	order  func(a, b share) int // who of two gets one of the pence first
}

// newDivision divides pence by weights. These may be together 0 only if there are no pence.
func newDivision(pence int, l []api.ShareStake) division {
	d := division{left: pence, order: byRest}
	all := int64(weights(l))
	for _, s := range l {
		x := share{ShareStake: s}
		if pence > 0 {
			// an int may have 32 bits, too few for the product
			product := int64(pence) * int64(s.Weight)
			x.pence, x.rest = int(product/all), int(product%all)
		}
		d.left -= x.pence
		d.shares = append(d.shares, x)
	}
	return d
}

// byRest puts the greater rest first, and of equal ones the name that comes first.
func byRest(a, b share) int {
	return cmp.Or(cmp.Compare(b.rest, a.rest), cmp.Compare(a.Name, b.Name))
}

// more produces the shares that get a penny more.
func (d division) more(yield func(share) bool) {
	sorted := slices.SortedFunc(slices.Values(d.shares), d.order)
	for _, s := range sorted[:d.left:d.left] {
		if !yield(s) {
			return
		}
	}
}

// pence returns what each share gets, in their order.
func (d division) pence() []int {
	var gets []int
	for _, s := range d.shares {
		gets = append(gets, s.pence)
	}
	for favoured := range d.more {
		for i, s := range d.shares {
			if s == favoured {
				gets[i]++
			}
		}
	}
	return gets
}

// divide divides pence by the weights of stakes, in their order.
func divide(pence int, l []api.ShareStake) []int { return newDivision(pence, l).pence() }
