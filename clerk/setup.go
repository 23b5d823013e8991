package clerk

import (
	"drifter/api"
	"drifter/brand"
	"drifter/share"
)

func isSetup(s api.ClerkSetup) bool {
	for _, b := range s.Boats {
		if !isBoat(b) {
			return false
		}
	}
	return areNames(api.ClerkBoats, boatNames(s)...) && areNames(api.AuctionBuyers, s.Buyers...) &&
		isIn(s.Least, 0, api.AuctionPrice) && canBrand(s) && isIn(s.Day, 0, api.MaxDay)
}

// isBoat reports whether a boat is valid but for its name.
func isBoat(b api.ClerkBoat) bool {
	return b.V.Gross == 0 && len(b.V.Costs) == 0 && share.Check(b.V) == api.OK
}

// areNames reports whether there are from 1 to so many names, all different.
func areNames(most int, names ...string) bool {
	if len(names) > most {
		return false
	}
	var l []api.ShareStake
	for _, name := range names {
		l = append(l, api.ShareStake{Name: name, Weight: 1})
	}
	// whatever has different names, and some weight, divides a sum: even one of 0
	_, e := share.Divide(0, l)
	return e == api.OK
}

// canBrand reports whether the brands and the rule are valid.
func canBrand(s api.ClerkSetup) bool {
	// a lot of which nothing is opened is promised a brand, or none; all other errors are of the brands and the rule
	_, _, e := brand.Promise(s.Marks, api.BrandBarrels, s.Rule, nil)
	return e == api.OK || e == api.ErrNone
}

func boatNames(s api.ClerkSetup) []string {
	var names []string
	for _, b := range s.Boats {
		names = append(names, b.Name)
	}
	return names
}

// copyOf returns a copy of a valid setup.
func copyOf(s api.ClerkSetup) api.ClerkSetup {
	s.Boats, s.Buyers, s.Marks = copied(s.Boats), copied(s.Buyers), copied(s.Marks)
	for i := range s.Boats {
		v := &s.Boats[i].V
		v.Costs = nil
		v.Owners, v.Lenders, v.Hands, v.Loans = copied(v.Owners), copied(v.Lenders), copied(v.Hands), copied(v.Loans)
	}
	return s
}

// copied returns a copy of a list.
func copied[T any](l []T) []T { return append([]T(nil), l...) }
