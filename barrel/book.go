package barrel

import (
	"iter"
	"slices"

	"drifter/api"
)

// move is one of a book, and its count.
type move struct {
	api.BarrelMove
	count int
}

func (m move) counted() int { return m.count }

func (m move) least() int { return m.Count.Low }

func (m move) most() int { return m.Count.High }

// book is how many stations a valid book has, and its moves.
type book struct {
	stations int
	moves    []move
}

// newBook checks a book. The counts of its moves are their least ones.
func newBook(b api.BarrelBook) (book, api.Errno) {
	if !isBook(b) {
		return book{}, api.ErrBarrelBook
	}
	w := book{stations: b.Stations}
	for _, m := range b.Moves {
		w.moves = append(w.moves, move{m, m.Count.Low})
	}
	return w, api.OK
}

func isBook(b api.BarrelBook) bool {
	if !isIn(b.Stations, 2, api.BarrelStations) || !isIn(len(b.Moves), 1, api.BarrelMoves) {
		return false
	}
	last := b.Stations - 1
	for _, m := range b.Moves {
		if !isIn(m.From, 0, last) || !isIn(m.To, 0, last) || m.From == m.To || !isSpan(m.Count, api.BarrelCount) {
			return false
		}
	}
	return true
}

// stationSet is a set of stations, with a bit for each.
type stationSet int

func only(station int) stationSet { return 1 << station }

func (s stationSet) has(station int) bool { return s>>station&1 == 1 }

func (s stationSet) loses(m move) bool { return s.has(m.From) && !s.has(m.To) }

func (s stationSet) gains(m move) bool { return s.has(m.To) && !s.has(m.From) }

// those returns the moves of which something is so.
func (b book) those(is func(move) bool) []move {
	var l []move
	for _, m := range b.moves {
		if is(m) {
			l = append(l, m)
		}
	}
	return l[:len(l):len(l)]
}

func (b book) hasSet(s stationSet) bool { return isIn(int(s), 0, 1<<b.stations-1) }

// proves reports whether more must go out of a set than can come into it.
func (b book) proves(s stationSet) bool {
	return sum(move.least, b.those(s.loses)...) > sum(move.most, b.those(s.gains)...)
}

// proof returns a set that proves that the book does not balance, if there is one.
func (b book) proof() (s stationSet, is bool) {
	for s := range stationSet(1) << b.stations {
		if b.proves(s) {
			return s, true
		}
	}
	return 0, false
}

// surplus returns how many barrels more come into a station than go out.
func (b book) surplus(station int) int {
	s := only(station)
	return sum(move.counted, b.those(s.gains)...) - sum(move.counted, b.those(s.loses)...)
}

func (b book) lack(station int) int { return -b.surplus(station) }

// areCounts reports whether as many numbers as moves balance.
func (b book) areCounts(counts []int) bool {
	l := slices.Clone(b.moves)
	for i, m := range l {
		if !isIn(counts[i], m.Count.Low, m.Count.High) {
			return false
		}
		l[i].count = counts[i]
	}
	b.moves = l
	for station := range b.stations {
		if b.surplus(station) != 0 {
			return false
		}
	}
	return true
}

// change is how the count of a move can change: by times 1 up to room, so that as many barrels are at another station.
type change struct{ move, by, room, to int }

// changes returns what produces all changes after which fewer barrels are at a station.
func (b book) changes(station int) iter.Seq[change] {
	return func(yield func(change) bool) {
		for i, m := range b.moves {
			c := change{move: i}
			switch station {
			case m.From:
				c.by, c.room, c.to = 1, m.most()-m.count, m.To
			case m.To:
				c.by, c.room, c.to = -1, m.count-m.least(), m.From
			}
			if c.room > 0 && !yield(c) {
				return
			}
		}
	}
}

// bring changes counts on a way from a station to one that lacks barrels, so that some of n barrels are there, and returns how many.
func (b book) bring(n, station int, lack func(station int) int) int {
	var asked [api.BarrelStations]bool
	var goOn func(n, at int) int
	goOn = func(n, at int) int {
		if lacks := lack(at); lacks > 0 {
			return min(n, lacks)
		}
		asked[at] = true
		for c := range b.changes(at) {
			if asked[c.to] {
				continue
			}
			if some := goOn(min(n, c.room), c.to); some > 0 {
				b.moves[c.move].count += c.by * some
				return some
			}
		}
		return 0
	}
	return goOn(n, station)
}

// settle changes counts until nothing is too much at any station, and returns 0; or until a surplus finds no way, and returns that.
func (b book) settle() int {
	for station := range b.stations {
		for n := b.surplus(station); n > 0; n = b.surplus(station) {
			if b.bring(n, station, b.lack) == 0 {
				return n
			}
		}
	}
	return 0
}

// with returns the book with so many barrels of a move, neither more nor fewer.
func (b book) with(move, n int) book {
	b.moves = slices.Clone(b.moves)
	m := &b.moves[move]
	m.Count, m.count = api.Span{Low: n, High: n}, n
	return b
}

// balance returns between what each count lies in all counts that balance, if some do. It changes counts.
func (b book) balance() (l []api.Span, is bool) {
	if b.settle() > 0 {
		return nil, false
	}
	for i, m := range b.moves {
		// where all else is balanced, the surplus that stays is by how much the end is out of reach
		low, high := b.with(i, m.least()).settle(), b.with(i, m.most()).settle()
		l = append(l, api.Span{Low: m.least() + low, High: m.most() - high})
	}
	return l, true
}
