package nets_test

import (
	"math"
	"math/rand/v2"
	"reflect"
	"slices"
	"testing"

	"drifter/api"
	"drifter/nets"
)

func bar(from, to int) api.NetsBar { return api.NetsBar{From: from, To: to} }

// torn is the torn net of the chapter's examples, with more bars.
func torn(more ...api.NetsBar) api.NetsTorn {
	return api.NetsTorn{Wide: 3, High: 2, Mesh: 10, Knot: 3, Torn: append([]api.NetsBar{bar(0, 1), bar(1, 2), bar(1, 4)}, more...)}
}

// barsOf returns all bars of a net.
func barsOf(wide, high int) []api.NetsBar {
	var l []api.NetsBar
	for knot := range wide * high {
		if knot%wide != wide-1 {
			l = append(l, bar(knot, knot+1))
		}
		if knot/wide != high-1 {
			l = append(l, bar(knot, knot+wide))
		}
	}
	return l
}

// some returns those bars of a list that are in a set of numbers.
func some(l []api.NetsBar, set int) []api.NetsBar {
	var those []api.NetsBar
	for i, b := range l {
		if set>>i&1 == 1 {
			those = append(those, b)
		}
	}
	return those
}

// doMend says in other words than the package whether pieces mend a torn net: all bars along which they run, sorted, are the torn ones.
func doMend(t api.NetsTorn, pieces [][]int) bool {
	order := func(a, b api.NetsBar) int { return 1000*(a.From-b.From) + a.To - b.To }
	var run []api.NetsBar
	for _, piece := range pieces {
		if len(piece) < 2 {
			return false
		}
		for i := 1; i < len(piece); i++ {
			run = append(run, bar(min(piece[i-1], piece[i]), max(piece[i-1], piece[i])))
		}
	}
	slices.SortFunc(run, order)
	return slices.Equal(run, slices.SortedFunc(slices.Values(t.Torn), order))
}

// runs returns all sets of bars, out of a list, along which one piece can run.
func runs(l []api.NetsBar) []int {
	found := map[int]bool{}
	var run func(knot, set int)
	run = func(knot, set int) {
		for i, b := range l {
			if set>>i&1 == 0 && (b.From == knot || b.To == knot) {
				found[set|1<<i] = true
				run(b.From+b.To-knot, set|1<<i)
			}
		}
	}
	for _, b := range l {
		run(b.From, 0)
		run(b.To, 0)
	}
	var sets []int
	for set := range found {
		sets = append(sets, set)
	}
	return sets
}

// fewest returns, for each set of bars out of a list, the fewest pieces that run along all of them.
func fewest(l []api.NetsBar) []int {
	sets, few := runs(l), make([]int, 1<<len(l))
	for set := 1; set < len(few); set++ {
		few[set] = len(l)
		for _, run := range sets {
			if run&^set == 0 && run&(set&-set) != 0 { // one of the pieces has the first bar
				few[set] = min(few[set], 1+few[set&^run])
			}
		}
	}
	return few
}

// groupsOf returns how many pieces P2.10 tells of a torn net: for each group of bars that hang together.
func groupsOf(t api.NetsTorn) int {
	group := make([]int, t.Wide*t.High)
	for i := range group {
		group[i] = i
	}
	for range group {
		for _, b := range t.Torn {
			g := min(group[b.From], group[b.To])
			group[b.From], group[b.To] = g, g
		}
	}
	meeting, odd, is := make([]int, len(group)), make([]int, len(group)), make([]bool, len(group))
	for _, b := range t.Torn {
		meeting[b.From]++
		meeting[b.To]++
		is[group[b.From]] = true
	}
	for knot, n := range meeting {
		odd[group[knot]] += n % 2
	}
	pieces := 0
	for g := range group {
		if is[g] {
			pieces += max(1, odd[g]/2)
		}
	}
	return pieces
}

func anyTorn(r *rand.Rand) api.NetsTorn {
	t := api.NetsTorn{Wide: between(r, 2, api.NetsKnots), High: between(r, 2, api.NetsKnots), Mesh: between(r, 1, 100), Knot: between(r, 0, 100)}
	chance := between(r, 1, 9)
	t.Torn = slices.DeleteFunc(barsOf(t.Wide, t.High), func(api.NetsBar) bool { return r.IntN(9) >= chance })
	r.Shuffle(len(t.Torn), func(i, j int) { t.Torn[i], t.Torn[j] = t.Torn[j], t.Torn[i] })
	return t
}

// compare holds Mend, Twine and IsMend to what so many pieces are.
func compare(t *testing.T, x api.NetsTorn, pieces int) {
	t.Helper()
	want := x.Mesh*len(x.Torn) + 2*x.Knot*pieces
	l, e := nets.Mend(x)
	if len(l) != pieces || (e == api.OK) != (len(x.Torn) > 0) || !doMend(x, l) || e != api.OK && (e != api.ErrNone || l != nil) {
		t.Errorf("%v: Mend %v, %d; not %d pieces", x, l, e, pieces)
	}
	if twine, is, e := nets.IsMend(x, l); twine != want || !is || e != api.OK {
		t.Errorf("%v: IsMend of %v: %d, %v, %d; not %d", x, l, twine, is, e, want)
	}
	if twine, e := nets.Twine(x); twine != want || e != api.OK {
		t.Errorf("%v: Twine %d, %d; not %d", x, twine, e, want)
	}
}

func TestTornNetsThatAreValid(t *testing.T) { // P2.4
	most := api.NetsTorn{Wide: 6, High: 6, Mesh: 100, Knot: 100, Torn: barsOf(6, 6)}
	for i, x := range []api.NetsTorn{torn(), torn(bar(0, 3), bar(2, 5), bar(3, 4), bar(4, 5)), most, {Wide: 2, High: 2, Mesh: 1}, {Wide: 2, High: 6, Mesh: 1, Torn: []api.NetsBar{}}, {Wide: 2, High: 2, Mesh: 1, Torn: []api.NetsBar{bar(1, 3)}}} {
		if e := nets.CheckTorn(x); e != api.OK {
			t.Errorf("valid torn net %d: %d", i, e)
		}
	}
}

func TestTornNetsThatAreWrong(t *testing.T) { // P2.4
	changes := []func(*api.NetsTorn){
		func(x *api.NetsTorn) { x.Wide = 1 },
		func(x *api.NetsTorn) { x.Wide = 7 },
		func(x *api.NetsTorn) { x.High = 1 },
		func(x *api.NetsTorn) { x.High = 7 },
		func(x *api.NetsTorn) { x.Wide, x.High = math.MaxInt, math.MinInt },
		func(x *api.NetsTorn) { x.Mesh = 0 },
		func(x *api.NetsTorn) { x.Mesh = 101 },
		func(x *api.NetsTorn) { x.Knot = -1 },
		func(x *api.NetsTorn) { x.Knot = 101 },
		func(x *api.NetsTorn) { x.Torn[2] = x.Torn[0] },
		func(x *api.NetsTorn) { x.Torn = slices.Repeat(x.Torn, 1000) },
		func(x *api.NetsTorn) { *x = api.NetsTorn{} },
	}
	// the other way round, not neighbours, over the end of a row, out of the net
	for _, b := range []api.NetsBar{bar(1, 0), bar(3, 0), bar(0, 0), bar(0, 2), bar(0, 4), bar(0, 5), bar(2, 3), bar(5, 6), bar(3, 6), bar(5, 8), bar(-1, 0), bar(-3, 0), bar(-1, 2), bar(math.MaxInt, math.MinInt), bar(math.MinInt, math.MinInt+1), bar(math.MaxInt-1, math.MaxInt)} {
		changes = append(changes, func(x *api.NetsTorn) { x.Torn[1] = b })
	}
	for i, change := range changes {
		x := torn()
		change(&x)
		twine, is, e := nets.IsMend(x, [][]int{{0, 1, 2}, {1, 4}})
		l, e2 := nets.Mend(x)
		least, e3 := nets.Twine(x)
		if e4 := nets.CheckTorn(x); e != api.ErrNetsTorn || e2 != api.ErrNetsTorn || e3 != api.ErrNetsTorn || e4 != api.ErrNetsTorn {
			t.Errorf("the wrong torn net %d: %d, %d, %d, %d", i, e4, e, e2, e3)
		}
		if twine != 0 || is || l != nil || least != 0 {
			t.Errorf("the wrong torn net %d: %d, %v, %v, %d", i, twine, is, l, least)
		}
	}
}

func TestIsMend(t *testing.T) { // P2.4
	blank, square := torn(), torn()
	blank.Torn = nil
	square.Torn = []api.NetsBar{bar(0, 1), bar(1, 4), bar(3, 4), bar(0, 3)}
	for i, x := range []struct {
		t      api.NetsTorn
		pieces [][]int
		twine  int
		is     bool
	}{
		{torn(), [][]int{{0, 1, 2}, {1, 4}}, 42, true},
		{torn(), [][]int{{0, 1, 4}, {1, 2}}, 42, true},
		{torn(), [][]int{{1, 2}, {4, 1, 0}}, 42, true},
		{torn(), [][]int{{1, 0}, {4, 1}, {1, 2}}, 48, true},
		{torn(), nil, 0, false},
		{torn(), [][]int{{}}, 0, false},
		{torn(), [][]int{{0, 1, 2}}, 0, false},
		{torn(), [][]int{{0, 1, 2}, {1, 4}, {1}}, 0, false}, // a single knot is no piece
		{torn(), [][]int{{0, 1, 2}, {1, 4}, nil}, 0, false},
		{torn(), [][]int{{0, 1, 2}, {1, 4, 1}}, 0, false}, // there and back
		{torn(), [][]int{{0, 1, 2}, {1, 4}, {2, 1}}, 0, false},
		{torn(), [][]int{{0, 1, 2, 1, 4}}, 0, false},
		{torn(), [][]int{{0, 1, 2}, {1, 4}, {0, 3}}, 0, false}, // a whole bar
		{torn(), [][]int{{0, 1, 2}, {1, 4, 3}}, 0, false},
		{torn(), [][]int{{0, 1, 2, 4}, {1, 4}}, 0, false}, // not along bars
		{torn(), [][]int{{0, 1, 2, 2}, {1, 4}}, 0, false},
		{torn(), [][]int{{0, 1, 2, 99}, {1, 4}}, 0, false},
		{torn(), [][]int{{math.MinInt, math.MaxInt}}, 0, false},
		{torn(), slices.Repeat([][]int{{0, 1, 2}}, 1000), 0, false},
		{blank, nil, 0, true},
		{blank, [][]int{}, 0, true},
		{blank, [][]int{{0}}, 0, false},
		{blank, [][]int{{0, 1}}, 0, false},
		{square, [][]int{{0, 1, 4, 3, 0}}, 46, true},
		{square, [][]int{{4, 1, 0, 3, 4}}, 46, true},
		{square, [][]int{{0, 1, 4}, {0, 3, 4}}, 52, true},
		{square, [][]int{{0, 1, 4, 3}}, 0, false},
	} {
		if twine, is, e := nets.IsMend(x.t, x.pieces); twine != x.twine || is != x.is || e != api.OK {
			t.Errorf("IsMend %d: %d, %v, %d", i, twine, is, e)
		}
	}
}

func TestMendAndTwine(t *testing.T) { // P2.4
	square, eight, apart, blank := torn(), torn(), torn(), torn()
	square.Torn = []api.NetsBar{bar(0, 1), bar(1, 4), bar(3, 4), bar(0, 3)}
	// two squares that share a knot
	eight = api.NetsTorn{Wide: 3, High: 3, Mesh: 1, Knot: 50, Torn: []api.NetsBar{bar(0, 1), bar(1, 4), bar(3, 4), bar(0, 3), bar(4, 5), bar(5, 8), bar(7, 8), bar(4, 7)}}
	apart.Torn = []api.NetsBar{bar(0, 3), bar(1, 2), bar(2, 5)}
	blank.Torn = nil
	free := torn()
	free.Knot = 0
	corners := api.NetsTorn{Wide: 4, High: 4, Mesh: 2, Knot: 1, Torn: []api.NetsBar{bar(0, 1), bar(1, 5), bar(4, 5), bar(0, 4), bar(10, 11), bar(11, 15), bar(14, 15), bar(10, 14)}}
	// the largest net but for eight bars inside, with an odd number at all knots but the corners
	inside := []int{7, 9, 13, 15, 19, 21, 25, 27}
	odd := api.NetsTorn{Wide: 6, High: 6, Mesh: 1, Knot: 1}
	odd.Torn = slices.DeleteFunc(barsOf(6, 6), func(b api.NetsBar) bool {
		return b.To == b.From+1 && slices.Contains(inside, b.From)
	})
	for i, x := range []struct {
		t             api.NetsTorn
		pieces, twine int
	}{
		{odd, 16, 84}, {torn(), 2, 42}, {torn(bar(0, 3)), 2, 52}, {square, 1, 46}, {eight, 1, 108}, {apart, 2, 42}, {blank, 0, 0}, {free, 2, 30}, {corners, 2, 20},
		{torn(bar(0, 3), bar(2, 5), bar(3, 4), bar(4, 5)), 1, 76},
		{api.NetsTorn{Wide: 6, High: 6, Mesh: 100, Knot: 100, Torn: barsOf(6, 6)}, 8, 7600},
	} {
		compare(t, x.t, x.pieces)
		if twine, e := nets.Twine(x.t); twine != x.twine || e != api.OK {
			t.Errorf("Twine %d: %d, %d", i, twine, e)
		}
	}
}

// Pieces are as few as those of all ways to run along the bars of small nets.
func TestFewestPieces(t *testing.T) { // P2.4, P2.10
	for _, size := range []api.NetsBar{bar(2, 2), bar(3, 2), bar(2, 3), bar(3, 3)} {
		l := barsOf(size.From, size.To)
		for set, pieces := range fewest(l) {
			x := api.NetsTorn{Wide: size.From, High: size.To, Mesh: 7, Knot: 2, Torn: some(l, set)}
			compare(t, x, pieces)
			if groups := groupsOf(x); groups != pieces {
				t.Fatalf("%v: %d pieces, but its groups have %d", x, pieces, groups)
			}
		}
	}
}

func TestTwineOfGroups(t *testing.T) { // P2.10
	r := rand.New(rand.NewPCG(2, 10))
	for range 2000 {
		x := anyTorn(r)
		compare(t, x, groupsOf(x))
	}
}

// Arguments are as they were, also behind the end of a list, and pieces share no memory.
func TestMemoryOfTornNets(t *testing.T) { // P2.5, P2, R3, R4
	room := append(make([]api.NetsBar, 0, 20), torn(bar(3, 4), bar(4, 5)).Torn...)
	x := torn()
	x.Torn = room[:3]
	want, e := nets.Mend(x)
	again, _ := nets.Mend(x)
	if len(want) != 2 || e != api.OK {
		t.Fatalf("Mend: %v, %d", want, e)
	}
	for i, piece := range again {
		for k := range piece[:cap(piece)] {
			piece[:cap(piece)][k] = -9
		}
		if i == 0 && !slices.Equal(again[1], want[1]) {
			t.Errorf("two pieces share memory: %v", again)
		}
	}
	for _, b := range room[5:cap(room)] {
		if b != bar(0, 0) {
			t.Error("something was written behind an argument")
		}
	}
	if !slices.Equal(room, torn(bar(3, 4), bar(4, 5)).Torn) {
		t.Errorf("an argument has changed: %v", room)
	}
	if l, _ := nets.Mend(x); !reflect.DeepEqual(l, want) {
		t.Errorf("called again: %v, not %v", l, want)
	}
	pieces := [][]int{{0, 1, 2}, {1, 4}}
	nets.IsMend(x, pieces)
	if !reflect.DeepEqual(pieces, [][]int{{0, 1, 2}, {1, 4}}) {
		t.Errorf("pieces have changed: %v", pieces)
	}
}
