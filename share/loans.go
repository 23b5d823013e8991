package share

import "drifter/api"

// mostLent is how many nets a loan has at most.
const mostLent = 1000

// lender is how many nets a lender has, and its claim.
type lender struct{ nets, claim int }

// lend makes all loans of a valid voyage, and reports whether they are right. What a lender has in between does not matter.
func (v voyage) lend() (map[string]lender, bool) {
	lent := map[string]lender{}
	for _, s := range v.Lenders {
		lent[s.Name] = lender{s.Weight, api.ShareEighth * s.Weight}
	}
	if len(v.Loans) > api.ShareLoans {
		return nil, false
	}
	for _, l := range v.Loans {
		from, isFrom := lent[l.From]
		to, isTo := lent[l.To]
		if !isFrom || !isTo || !isLoan(l) {
			return nil, false
		}
		claim := (api.ShareEighth - l.Rent) * l.Nets
		lent[l.From] = lender{from.nets - l.Nets, from.claim - claim}
		lent[l.To] = lender{to.nets + l.Nets, to.claim + claim}
	}
	for _, x := range lent {
		if x.nets < 0 || x.claim < 0 {
			return nil, false
		}
	}
	return lent, true
}

// isLoan reports whether a loan is right but for who is who, and what they have.
func isLoan(l api.ShareLoan) bool {
	return l.From != l.To && isIn(l.Nets, 1, mostLent) && isIn(l.Rent, 0, api.ShareEighth)
}
