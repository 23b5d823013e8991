package barrel_test

import (
	"math"
	"math/rand/v2"
	"slices"
	"testing"

	"drifter/api"
	"drifter/barrel"
)

func move(from, station, low, high int) api.BarrelMove {
	return api.BarrelMove{From: from, To: station, Count: to(low, high)}
}

// book is the one of the chapter's examples, with the greatest number of its last move.
func book(last int) api.BarrelBook {
	return api.BarrelBook{Stations: 3, Moves: []api.BarrelMove{move(0, 1, 10, 20), move(1, 2, 5, 12), move(1, 0, 2, 4), move(2, 0, 0, last)}}
}

// wholeBook is a book of which everything is as great, and as much, as can be.
func wholeBook() api.BarrelBook {
	b := api.BarrelBook{Stations: 6}
	for i := range 5 {
		b.Moves = append(b.Moves, move(0, i+1, 1000, 1000), move(i+1, 0, 1000, 1000))
	}
	return b
}

func TestBooksThatAreWrong(t *testing.T) { // P6.4, P6.5
	for what, change := range map[string]func(b *api.BarrelBook){
		"nothing":                   func(b *api.BarrelBook) { *b = api.BarrelBook{} },
		"no stations":               func(b *api.BarrelBook) { b.Stations = 0 },
		"one station":               func(b *api.BarrelBook) { b.Stations = 1 },
		"a station too few":         func(b *api.BarrelBook) { b.Stations = 2 },
		"seven stations":            func(b *api.BarrelBook) { b.Stations = 7 },
		"stations below 0":          func(b *api.BarrelBook) { b.Stations = -3 },
		"far too many stations":     func(b *api.BarrelBook) { b.Stations = math.MaxInt },
		"stations far below 0":      func(b *api.BarrelBook) { b.Stations = math.MinInt },
		"64 stations":               func(b *api.BarrelBook) { b.Stations = 64 },
		"no moves":                  func(b *api.BarrelBook) { b.Moves = nil },
		"an empty list of moves":    func(b *api.BarrelBook) { b.Moves = []api.BarrelMove{} },
		"11 moves":                  func(b *api.BarrelBook) { b.Moves = slices.Repeat(b.Moves[:1], 11) },
		"far too many moves":        func(b *api.BarrelBook) { b.Moves = slices.Repeat(b.Moves[:1], 1100) },
		"a move to where it began":  func(b *api.BarrelBook) { b.Moves[0].To = 0 },
		"another one":               func(b *api.BarrelBook) { b.Moves[3] = move(2, 2, 0, 9) },
		"a move from nowhere":       func(b *api.BarrelBook) { b.Moves[0].From = -1 },
		"a move from beyond":        func(b *api.BarrelBook) { b.Moves[0].From = 3 },
		"a move from far beyond":    func(b *api.BarrelBook) { b.Moves[0].From = math.MaxInt },
		"a move to nowhere":         func(b *api.BarrelBook) { b.Moves[3].To = -1 },
		"a move to beyond":          func(b *api.BarrelBook) { b.Moves[3].To = 3 },
		"a move to far below":       func(b *api.BarrelBook) { b.Moves[3].To = math.MinInt },
		"a count that is no span":   func(b *api.BarrelBook) { b.Moves[1].Count = to(6, 5) },
		"a count that begins < 0":   func(b *api.BarrelBook) { b.Moves[1].Count = to(-1, 5) },
		"a count below 0":           func(b *api.BarrelBook) { b.Moves[0].Count = to(-2, -1) },
		"a count that is too great": func(b *api.BarrelBook) { b.Moves[3].Count = to(5, 1001) },
		"wholly too great":          func(b *api.BarrelBook) { b.Moves[2].Count = to(1001, 1001) },
		"any count":                 func(b *api.BarrelBook) { b.Moves[2].Count = to(math.MinInt, math.MaxInt) },
		"far too great":             func(b *api.BarrelBook) { b.Moves[2].Count = to(0, math.MaxInt) },
		"nothing that can be":       func(b *api.BarrelBook) { b.Moves[2].Count = to(math.MaxInt, math.MinInt) },
	} {
		b := book(9)
		change(&b)
		if e := barrel.CheckBook(b); e != api.ErrBarrelBook {
			t.Errorf("%s: CheckBook %d", what, e)
		}
		for _, counts := range [][]int{nil, {11, 8, 3, 8}, {11, 8, 3, 9}, {1}, make([]int, 11)} {
			if is, e := barrel.AreCounts(b, counts); is || e != api.ErrBarrelBook {
				t.Errorf("%s: AreCounts of %v: %v, %d", what, counts, is, e)
			}
		}
		if l, e := barrel.Balance(b); len(l) != 0 || e != api.ErrBarrelBook {
			t.Errorf("%s: Balance %v, %d", what, l, e)
		}
		for _, set := range []int{0, 1, 3, 7, 8, -1, math.MinInt, math.MaxInt} {
			if is, e := barrel.Proves(b, set); is || e != api.ErrBarrelBook {
				t.Errorf("%s: Proves of %d: %v, %d", what, set, is, e)
			}
		}
		if set, e := barrel.Proof(b); set != 0 || e != api.ErrBarrelBook {
			t.Errorf("%s: Proof %d, %d", what, set, e)
		}
	}
}

func TestBooksThatAreRight(t *testing.T) { // P6.4, P6.5
	for i, b := range []api.BarrelBook{
		book(9), book(4), wholeBook(),
		{Stations: 2, Moves: []api.BarrelMove{move(0, 1, 0, 0)}},
		{Stations: 2, Moves: slices.Repeat([]api.BarrelMove{move(1, 0, 0, 1000)}, 10)},
		{Stations: 6, Moves: []api.BarrelMove{move(5, 4, 0, 0)}}, // stations without moves
	} {
		_, e1 := barrel.AreCounts(b, make([]int, len(b.Moves)))
		_, e2 := barrel.Proves(b, 1<<b.Stations-1)
		_, e3 := barrel.Balance(b)
		_, e4 := barrel.Proof(b)
		if e := barrel.CheckBook(b); e != api.OK || e1 != api.OK || e2 != api.OK || e3 == api.ErrBarrelBook || e4 == api.ErrBarrelBook {
			t.Errorf("the book %d: %d, %d, %d, %d, %d", i, e, e1, e2, e3, e4)
		}
	}
}

func TestAreCounts(t *testing.T) { // P6.4
	two := api.BarrelBook{Stations: 4, Moves: []api.BarrelMove{move(0, 1, 0, 9), move(1, 0, 0, 9), move(2, 3, 0, 9), move(3, 2, 0, 9)}}
	for i, x := range []struct {
		b      api.BarrelBook
		counts []int
		is     bool
	}{
		{book(9), []int{11, 8, 3, 8}, true}, {book(9), []int{10, 6, 4, 6}, true}, {book(9), []int{13, 9, 4, 9}, true}, {book(9), []int{10, 8, 2, 8}, true},
		{book(9), []int{11, 8, 3, 9}, false}, {book(9), []int{11, 8, 2, 8}, false}, {book(9), []int{12, 8, 3, 8}, false}, {book(9), []int{11, 7, 3, 8}, false},
		{book(9), []int{9, 6, 3, 6}, false},    // too few of the first move
		{book(9), []int{14, 10, 4, 10}, false}, // too many of the last one
		{book(9), []int{12, 7, 5, 7}, false}, {book(9), []int{10, 9, 1, 9}, false},
		{book(20), []int{17, 13, 4, 13}, false}, {book(20), []int{16, 12, 4, 12}, true}, {book(20), []int{10, 4, 4, 4}, false},
		{two, []int{3, 3, 5, 5}, true}, {two, []int{0, 0, 9, 9}, true}, {two, []int{3, 3, 5, 4}, false}, {two, []int{3, 4, 5, 5}, false}, {two, []int{3, 4, 5, 4}, false}, {two, []int{4, 3, 4, 5}, false},
		{wholeBook(), slices.Repeat([]int{1000}, 10), true},
		// they balance, but they cannot be; together they wrap around
		{two, []int{10, 10, 0, 0}, false}, {two, []int{-1, -1, 0, 0}, false}, {two, []int{math.MaxInt, math.MaxInt, 5, 5}, false}, {two, []int{5, 5, math.MinInt, math.MinInt}, false},
		{api.BarrelBook{Stations: 2, Moves: []api.BarrelMove{move(0, 1, 0, 9), move(0, 1, 0, 9), move(1, 0, 0, 9)}}, []int{math.MinInt, math.MinInt, 0}, false},
	} {
		if is, e := barrel.AreCounts(x.b, x.counts); is != x.is || e != api.OK {
			t.Errorf("AreCounts %d: %v, %d", i, is, e)
		}
	}
	for i, counts := range [][]int{nil, {}, {11, 8, 3}, {11, 8, 3, 8, 0}, {11}, make([]int, 9999)} {
		if is, e := barrel.AreCounts(book(9), counts); is || e != api.ErrBarrelCounts {
			t.Errorf("the wrong counts %d: %v, %d", i, is, e)
		}
	}
}

// rightBalance holds what Balance and Proof return to what they must; nil means that the book does not balance.
func rightBalance(t *testing.T, b api.BarrelBook, want []api.Span) {
	t.Helper()
	l, e := barrel.Balance(b)
	set, f := barrel.Proof(b)
	if want != nil {
		if !slices.Equal(l, want) || e != api.OK || set != 0 || f != api.ErrNone {
			t.Errorf("%v: Balance %v, %d; Proof %d, %d; not %v", b, l, e, set, f, want)
		}
		return
	}
	if len(l) != 0 || e != api.ErrBarrelFalse || f != api.OK || set < 0 || set >= 1<<b.Stations || !proves(b, set) {
		t.Errorf("%v: Balance %v, %d; Proof %d, %d; it does not balance", b, l, e, set, f)
	}
	if is, e := barrel.Proves(b, set); !is || e != api.OK {
		t.Errorf("%v: Proves of the proof %d: %v, %d", b, set, is, e)
	}
}

func TestBalance(t *testing.T) { // P6.4, P6.5
	ring := func(counts ...api.Span) api.BarrelBook {
		b := api.BarrelBook{Stations: len(counts)}
		for i, s := range counts {
			b.Moves = append(b.Moves, api.BarrelMove{From: i, To: (i + 1) % len(counts), Count: s})
		}
		return b
	}
	for _, x := range []struct {
		b    api.BarrelBook
		want []api.Span
	}{
		{book(9), []api.Span{to(10, 13), to(6, 9), to(2, 4), to(6, 9)}},
		{book(6), []api.Span{to(10, 10), to(6, 6), to(4, 4), to(6, 6)}},
		{book(20), []api.Span{to(10, 16), to(6, 12), to(2, 4), to(6, 12)}},
		{book(5), nil}, {book(4), nil},
		{ring(to(3, 8), to(5, 90)), []api.Span{to(5, 8), to(5, 8)}},
		{ring(to(3, 4), to(5, 90)), nil}, {ring(to(5, 90), to(3, 4)), nil}, {ring(to(3, 5), to(5, 90)), []api.Span{to(5, 5), to(5, 5)}},
		{ring(to(0, 1000), to(7, 900), to(0, 800), to(9, 1000), to(3, 700), to(0, 1000)), slices.Repeat([]api.Span{to(9, 700)}, 6)},
		{ring(to(0, 1000), to(7, 900), to(0, 800), to(701, 1000), to(3, 700), to(0, 1000)), nil},
		{ring(to(1000, 1000), to(0, 1000)), []api.Span{to(1000, 1000), to(1000, 1000)}},
		{ring(to(0, 0), to(0, 1000)), []api.Span{to(0, 0), to(0, 0)}},
		{wholeBook(), slices.Repeat([]api.Span{to(1000, 1000)}, 10)},
		// what cannot come back does not go
		{api.BarrelBook{Stations: 2, Moves: []api.BarrelMove{move(0, 1, 0, 9)}}, []api.Span{to(0, 0)}},
		{api.BarrelBook{Stations: 2, Moves: []api.BarrelMove{move(0, 1, 1, 9)}}, nil}, {api.BarrelBook{Stations: 2, Moves: []api.BarrelMove{move(1, 0, 1, 9)}}, nil},
		{api.BarrelBook{Stations: 4, Moves: []api.BarrelMove{move(0, 1, 0, 9), move(1, 0, 2, 9), move(1, 2, 0, 9), move(2, 3, 0, 9)}}, []api.Span{to(2, 9), to(2, 9), to(0, 0), to(0, 0)}},
		// several moves between two stations, one of which makes up for another one
		{api.BarrelBook{Stations: 2, Moves: []api.BarrelMove{move(0, 1, 0, 9), move(0, 1, 4, 6), move(1, 0, 7, 8)}}, []api.Span{to(1, 4), to(4, 6), to(7, 8)}},
		{api.BarrelBook{Stations: 2, Moves: []api.BarrelMove{move(0, 1, 0, 3), move(0, 1, 0, 3), move(1, 0, 5, 9), move(0, 1, 0, 1)}}, []api.Span{to(1, 3), to(1, 3), to(5, 7), to(0, 1)}},
		// apart from the station 0, and from each other
		{api.BarrelBook{Stations: 6, Moves: []api.BarrelMove{move(4, 5, 3, 7), move(5, 4, 5, 9), move(2, 3, 0, 4), move(3, 2, 1, 2)}}, []api.Span{to(5, 7), to(5, 7), to(1, 2), to(1, 2)}},
		{api.BarrelBook{Stations: 6, Moves: []api.BarrelMove{move(4, 5, 3, 7), move(5, 4, 8, 9), move(2, 3, 0, 4), move(3, 2, 1, 2)}}, nil},
		// two ways there, and one back
		{api.BarrelBook{Stations: 4, Moves: []api.BarrelMove{move(0, 1, 0, 5), move(0, 2, 3, 10), move(1, 3, 2, 4), move(2, 3, 0, 6), move(3, 0, 8, 20)}}, []api.Span{to(2, 4), to(4, 6), to(2, 4), to(4, 6), to(8, 10)}},
		// with a move across
		{api.BarrelBook{Stations: 4, Moves: []api.BarrelMove{move(0, 1, 9, 10), move(1, 3, 0, 2), move(1, 2, 0, 9), move(0, 2, 0, 3), move(2, 3, 0, 8), move(3, 0, 0, 20)}}, []api.Span{to(9, 10), to(1, 2), to(7, 8), to(0, 1), to(7, 8), to(9, 10)}},
	} {
		rightBalance(t, x.b, x.want)
	}
}

func TestProves(t *testing.T) { // P6.5
	for i, x := range []struct {
		b    api.BarrelBook
		set  int
		want bool
	}{
		{book(4), 3, true}, {book(4), 0, false}, {book(4), 7, false}, {book(4), 4, false}, {book(9), 3, false}, {book(4), 6, false}, {book(4), 5, false}, {book(4), 2, false},
		{book(5), 1, true}, {book(5), 3, false}, {book(9), 1, false}, {book(6), 1, false}, {book(4), 1, true},
		// from 1 at least 8 must go, and 7 can come; with 8 they balance
		{api.BarrelBook{Stations: 2, Moves: []api.BarrelMove{move(1, 0, 8, 9), move(0, 1, 0, 7)}}, 2, true},
		{api.BarrelBook{Stations: 2, Moves: []api.BarrelMove{move(1, 0, 8, 9), move(0, 1, 0, 7)}}, 1, false},
		{api.BarrelBook{Stations: 2, Moves: []api.BarrelMove{move(1, 0, 8, 9), move(0, 1, 0, 8)}}, 2, false},
		// what moves within a set does not count
		{api.BarrelBook{Stations: 4, Moves: []api.BarrelMove{move(1, 2, 900, 1000), move(2, 0, 5, 9), move(0, 1, 0, 4), move(3, 1, 0, 0), move(0, 3, 800, 900)}}, 6, true},
		{api.BarrelBook{Stations: 4, Moves: []api.BarrelMove{move(1, 2, 900, 1000), move(2, 0, 5, 9), move(0, 1, 0, 4), move(3, 1, 0, 1), move(0, 3, 800, 900)}}, 6, false},
		{api.BarrelBook{Stations: 6, Moves: []api.BarrelMove{move(5, 4, 1, 1)}}, 32, true}, {api.BarrelBook{Stations: 6, Moves: []api.BarrelMove{move(5, 4, 1, 1)}}, 47, true}, {api.BarrelBook{Stations: 6, Moves: []api.BarrelMove{move(5, 4, 1, 1)}}, 31, false}, {api.BarrelBook{Stations: 6, Moves: []api.BarrelMove{move(5, 4, 1, 1)}}, 63, false},
		{wholeBook(), 1, false}, {wholeBook(), 62, false},
	} {
		if is, e := barrel.Proves(x.b, x.set); is != x.want || e != api.OK {
			t.Errorf("Proves %d: %v, %d", i, is, e)
		}
	}
	for _, set := range []int{8, 9, 15, 64, -1, -8, math.MinInt, math.MaxInt} {
		for _, last := range []int{4, 9} {
			if is, e := barrel.Proves(book(last), set); is || e != api.ErrBarrelCounts {
				t.Errorf("Proves of %d: %v, %d", set, is, e)
			}
		}
	}
	if is, e := barrel.Proves(wholeBook(), 64); is || e != api.ErrBarrelCounts {
		t.Errorf("Proves of 64: %v, %d", is, e)
	}
	if is, e := barrel.Proves(api.BarrelBook{Stations: 2, Moves: []api.BarrelMove{move(1, 0, 8, 9)}}, 4); is || e != api.ErrBarrelCounts {
		t.Errorf("Proves of 4: %v, %d", is, e)
	}
}

func TestBooksAgainstTheOracle(t *testing.T) { // P6.4, P6.5, P6.11
	balanced, not := 0, 0
	eachBook(4000, func(r *rand.Rand, b api.BarrelBook, counts []int) {
		want, is := spansOf(b)
		if counts != nil && !is {
			t.Fatalf("%v: %v balance", b, counts)
		}
		rightBalance(t, b, want)
		for range 4 {
			set := r.IntN(1 << b.Stations)
			if is, e := barrel.Proves(b, set); is != proves(b, set) || e != api.OK {
				t.Fatalf("%v: Proves of %b: %v, %d", b, set, is, e)
			}
		}
		if is {
			balanced++
		} else {
			not++
		}
	})
	if balanced < 500 || not < 500 {
		t.Errorf("only %d books balance, %d do not", balanced, not)
	}
}

// Of small books all counts are tried.
func TestSmallBooks(t *testing.T) { // P6.4, P6.10, P6.11
	r := rand.New(rand.NewPCG(6, 6))
	balanced, not := 0, 0
	for range 600 {
		b, _ := anyBook(r, 4, 5, 4, 2)
		all := allCounts(b)
		if len(all) == 0 {
			rightBalance(t, b, nil)
			not++
			continue
		}
		balanced++
		var want []api.Span
		for i := range b.Moves {
			s := to(all[0][i], all[0][i])
			for _, counts := range all {
				s = to(min(s.Low, counts[i]), max(s.High, counts[i]))
			}
			want = append(want, s)
		}
		rightBalance(t, b, want)
		for _, counts := range all {
			if is, e := barrel.AreCounts(b, counts); !is || e != api.OK {
				t.Fatalf("%v: AreCounts of %v: %v, %d", b, counts, is, e)
			}
		}
	}
	if balanced < 100 || not < 100 {
		t.Errorf("only %d books balance, %d do not", balanced, not)
	}
}

func TestAreCountsAgainstTheOracle(t *testing.T) { // P6.4
	found := map[bool]int{}
	eachBook(3000, func(r *rand.Rand, b api.BarrelBook, counts []int) {
		if counts == nil {
			for _, m := range b.Moves {
				counts = append(counts, between(r, m.Count.Low, m.Count.High))
			}
		}
		counts = slices.Clone(counts)
		switch r.IntN(3) {
		case 0:
			counts[r.IntN(len(counts))] += between(r, -1, 1)
		case 1:
			for i := range counts {
				counts[i]++
			}
		}
		want := balances(b, counts)
		if is, e := barrel.AreCounts(b, counts); is != want || e != api.OK {
			t.Fatalf("%v: AreCounts of %v: %v, %d; not %v", b, counts, is, e, want)
		}
		found[want]++
	})
	if found[true] < 300 || found[false] < 300 {
		t.Errorf("only %v", found)
	}
}
