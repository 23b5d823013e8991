package contract

import (
	"iter"

	"drifter/api"
)

func isBook(b api.ContractBook) bool {
	parties := len(b.Cash)
	return isIn(parties, 1, api.ContractParties) && areIn(0, api.ContractCash, b.Cash...) && areDebts(b.Debts, parties) && areSeasons(b.Seasons, parties)
}

func areDebts(l []api.ContractDebt, parties int) bool {
	for _, d := range l {
		if !areIn(0, parties-1, d.From, d.To) || d.From == d.To || !isIn(d.Due, 1, api.ContractCash) {
			return false
		}
	}
	return len(l) <= api.ContractDebts
}

func areSeasons(l []api.ContractSeason, parties int) bool {
	for _, s := range l {
		if !isIn(s.Price, 0, api.ContractPrice) || len(s.Barrels) != parties || !areIn(0, api.ContractBarrels, s.Barrels...) {
			return false
		}
	}
	return isIn(len(l), 1, api.ContractSeasons)
}

// debt is one of a book. Its number tells it from others that are the same in all else.
type debt struct {
	api.ContractDebt
	number int
}

func (d debt) payer() int { return d.From }

func (d debt) payee() int { return d.To }

// part returns the part of a debt that is paid. It is the debt itself if this is paid whole.
func (d debt) part(paid payments) debt {
	d.Due = paid.of(d)
	return d
}

// book is one in the calculation.
type book struct{ api.ContractBook }

func (b book) debt(number int) debt { return debt{b.Debts[number], number} }

// all yields the debts of a book in its order.
func (b book) all() iter.Seq[debt] {
	return func(yield func(debt) bool) {
		for number := range b.Debts {
			if !yield(b.debt(number)) {
				return
			}
		}
	}
}

// debts yields the debts that a party is at one end of, in the order of the book.
func (b book) debts(end func(debt) int, party int) iter.Seq[debt] {
	return func(yield func(debt) bool) {
		for d := range b.all() {
			if end(d) == party && !yield(d) {
				return
			}
		}
	}
}

// whole returns the payments by which all debts are paid whole.
func (b book) whole() payments {
	var all payments
	for number, d := range b.Debts {
		all[number] = d.Due
	}
	return all
}

// in returns a book in one of its seasons.
func (b book) in(number int) season { return season{b, b.Seasons[number]} }

// loan returns the least that a party must be lent so that none of its debts breaks in any season.
func (b book) loan(party int) int {
	loan := 0
	for number := range len(b.Seasons) {
		// nothing breaks later if nobody breaks in the round 1, in which all the others pay whole
		loan = max(loan, -b.in(number).parties()[party].left(b.whole()))
	}
	return loan
}
