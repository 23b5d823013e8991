package contract

import (
	"slices"

	"drifter/api"
)

// payments are what is paid of each debt of a book.
type payments [api.ContractDebts]int

func (p payments) of(d debt) int { return p[d.number] }

// season is a book in one of its seasons.
type season struct {
	book
	api.ContractSeason
}

// has returns what a party has.
func (s season) has(party int) int { return s.Cash[party] + s.Barrels[party]*s.Price }

// purse is what a party has in a season, what others owe it, and what it owes.
type purse struct {
	has      int
	to, from []debt
}

// pay fills in what a party pays of its own debts by the payments of the round before.
func (p purse) pay(next, before payments) payments {
	left := p.has + sum(before.of, p.to...)
	for _, d := range p.from {
		next[d.number] = min(left, d.Due)
		left -= next[d.number]
	}
	return next
}

// left returns what some payments leave to a party; it is below 0 if they ask for more than the party has.
func (p purse) left(paid payments) int {
	return p.has + sum(paid.of, p.to...) - sum(paid.of, p.from...)
}

// party is what a party does in a season.
type party struct {
	pay  func(next, before payments) payments
	left func(paid payments) int
}

func (s season) parties() []party {
	var l []party
	for number, has := range each(len(s.Cash), s, season.has) {
		p := purse{has, slices.Collect(s.debts(debt.payee, number)), slices.Collect(s.debts(debt.payer, number))}
		l = append(l, party{p.pay, p.left})
	}
	return l
}

// clearing is what happens in a season: what is paid in the end, and in which round those debts break that do.
type clearing struct {
	season
	paid  payments
	broke map[debt]int
}

func (s season) clearing() clearing {
	c := clearing{s, s.whole(), map[debt]int{}}
	parties := s.parties()
rounds:
	for round := 1; ; round++ {
		before := c.paid
		for _, p := range parties {
			c.paid = p.pay(c.paid, before)
		}
		if c.paid == before {
			break rounds
		}
		for d := range s.all() {
			if d.part(before) == d && d.part(c.paid) != d {
				c.broke[d] = round
			}
		}
	}
	return c
}

// rounds returns in which round each debt breaks.
func (c clearing) rounds() []int {
	var l []int
	for d := range c.all() {
		l = append(l, c.broke[d]) // 0 for those that do not break
	}
	return l
}

// left returns what is left to a party.
func (c clearing) left(party int) int { return c.parties()[party].left(c.paid) }

// first returns the debt that breaks in the earliest round, of several the first one.
func (c clearing) first() (first debt, is bool) {
	for d := range c.all() {
		if round := c.broke[d]; round > 0 && (!is || round < c.broke[first]) {
			first, is = d, true
		}
	}
	return first, is
}

// behind returns the numbers of the debts that are behind one that breaks.
func (c clearing) behind(last debt) []int {
	var behind func(d debt) []int
	behind = func(d debt) []int {
		for earlier := range c.debts(debt.payee, d.From) {
			if round := c.broke[earlier]; 0 < round && round < c.broke[d] {
				return append(behind(earlier), d.number)
			}
		}
		return []int{d.number}
	}
	return behind(last)
}
