package share

import (
	"slices"

	"drifter/api"
)

// debts are balances, by their numbers.
type debts []int

// newDebts checks balances and copies them.
func newDebts(balances []int) (debts, api.Errno) {
	if len(balances) > api.ShareClear || !areIn(-api.ShareDebt, api.ShareDebt, balances...) || sum(itself, balances...) != 0 {
		return nil, api.ErrShareDebts
	}
	return slices.Clone(balances), api.OK
}

func (d debts) has(number int) bool { return isIn(number, 0, len(d)-1) }

func (d debts) pays(number int) bool { return d[number] < 0 }

func (d debts) gets(number int) bool { return d[number] > 0 }

// isCleared reports whether payments leave nobody with anything to pay or to get.
func (d debts) isCleared(l []api.SharePay) bool {
	var left [api.ShareClear]wide
	for number, balance := range d {
		left[number] = left[number].plus(balance)
	}
	for _, p := range l {
		if !d.has(p.From) || !d.has(p.To) || p.From == p.To || p.Sum <= 0 {
			return false
		}
		left[p.From] = left[p.From].plus(p.Sum)
		left[p.To] = left[p.To].plus(-p.Sum)
	}
	return left == [api.ShareClear]wide{}
}

// set is a set of numbers of balances, with a bit for each.
type set int

func (s set) has(number int) bool { return s>>number&1 == 1 }

func (s set) numbers() []int {
	var l []int
	for number := range api.ShareClear {
		if s.has(number) {
			l = append(l, number)
		}
	}
	return l
}

// open returns the set of all balances that are not 0.
func (d debts) open() set {
	var s set
	for number, balance := range d {
		if balance != 0 {
			s |= 1 << number
		}
	}
	return s
}

// split is how many groups a set has at most, and one of so many.
type split struct {
	groups int
	group  set
}

// splits returns the splits of all balances that are not 0, and of what is left of them group by group.
func (d debts) splits() map[set]split {
	known := map[set]split{0: {}}
	var find func(all set) split
	find = func(all set) split {
		if best, is := known[all]; is {
			return best
		}
		var best split
	sets:
		for s := range all + 1 {
			together := 0
			for number, balance := range d {
				if s.has(number) && !all.has(number) {
					continue sets
				}
				if s.has(number) {
					together += balance
				}
			}
			// in which order groups are found does not matter: the next one is that of the lowest number
			if lowest := all & -all; together != 0 || s&lowest == 0 {
				continue sets
			}
			if rest := find(all &^ s); rest.groups >= best.groups {
				best = split{rest.groups + 1, s}
			}
		}
		known[all] = best
		return best
	}
	find(d.open())
	return known
}

// groups returns as many groups as there can be.
func (d debts) groups() [][]int {
	var l [][]int
	known := d.splits()
	for all := d.open(); all != 0; all &^= known[all].group {
		l = append(l, known[all].group.numbers())
	}
	return l
}

// clear returns the fewest payments that leave nobody with anything to pay or to get, and makes them.
func (d debts) clear() []api.SharePay {
	var l []api.SharePay
	for _, group := range d.groups() {
		l = append(l, d.settle(group[:len(group):len(group)])...)
	}
	return l
}

// settle clears a group that has no group within it: so each payment but the last one settles one balance, and the last one two.
func (d debts) settle(group []int) []api.SharePay {
	var l []api.SharePay
	for slices.ContainsFunc(group, d.pays) {
		from, to := group[slices.IndexFunc(group, d.pays)], group[slices.IndexFunc(group, d.gets)]
		pence := least(-d[from], d[to])
		d[from] += pence
		d[to] -= pence
		l = append(l, api.SharePay{From: from, To: to, Sum: pence})
	}
	return l
}
