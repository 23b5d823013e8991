package barrel_test

import (
	"math"
	"math/rand/v2"
	"slices"
	"testing"

	"drifter/api"
	"drifter/barrel"
)

// pile is the one of the chapter's examples.
func pile() api.BarrelPile {
	return api.BarrelPile{Staves: []int{30, 40, 50, 35, 45, 60, 25}, Girth: 100, Play: 10}
}

// wholePile is a pile of which everything is as great, and as much, as can be.
func wholePile() api.BarrelPile {
	return api.BarrelPile{Staves: slices.Repeat([]int{500}, 10), Girth: 5000, Play: 100}
}

func TestPilesThatAreWrong(t *testing.T) { // P6.1
	for what, change := range map[string]func(p *api.BarrelPile){
		"nothing":                      func(p *api.BarrelPile) { *p = api.BarrelPile{} },
		"no staves":                    func(p *api.BarrelPile) { p.Staves = nil },
		"an empty list of staves":      func(p *api.BarrelPile) { p.Staves = []int{} },
		"11 staves":                    func(p *api.BarrelPile) { p.Staves = slices.Repeat([]int{9}, 11) },
		"far too many staves":          func(p *api.BarrelPile) { p.Staves = slices.Repeat([]int{9}, 9999) },
		"a first stave without width":  func(p *api.BarrelPile) { p.Staves[0] = 0 },
		"a last stave without width":   func(p *api.BarrelPile) { p.Staves[6] = 0 },
		"a width below 0":              func(p *api.BarrelPile) { p.Staves[3] = -1 },
		"a width far below 0":          func(p *api.BarrelPile) { p.Staves[3] = math.MinInt },
		"a stave that is too wide":     func(p *api.BarrelPile) { p.Staves[0] = 501 },
		"a last stave that is too":     func(p *api.BarrelPile) { p.Staves[6] = 501 },
		"a stave that is far too wide": func(p *api.BarrelPile) { p.Staves[3] = math.MaxInt },
		"no girth":                     func(p *api.BarrelPile) { p.Girth = 0 },
		"a girth below 0":              func(p *api.BarrelPile) { p.Girth = -1 },
		"a girth far below 0":          func(p *api.BarrelPile) { p.Girth = math.MinInt },
		"a girth that is too great":    func(p *api.BarrelPile) { p.Girth = 5001 },
		"one that is far too great":    func(p *api.BarrelPile) { p.Girth = math.MaxInt },
		"a play below 0":               func(p *api.BarrelPile) { p.Play = -1 },
		"a play far below 0":           func(p *api.BarrelPile) { p.Play = math.MinInt },
		"a play that is too great":     func(p *api.BarrelPile) { p.Play = 101 },
		"a play that is far too great": func(p *api.BarrelPile) { p.Play = math.MaxInt },
	} {
		p := pile()
		change(&p)
		if e := barrel.CheckPile(p); e != api.ErrBarrelCooper {
			t.Errorf("%s: CheckPile %d", what, e)
		}
		for _, l := range [][][]int{nil, {{1, 2}}, {{0, 1}}, {nil}, {{-1}, {99}}} {
			if is, e := barrel.AreBarrels(p, l); is || e != api.ErrBarrelCooper {
				t.Errorf("%s: AreBarrels of %v: %v, %d", what, l, is, e)
			}
		}
		if l, e := barrel.Set(p); len(l) != 0 || e != api.ErrBarrelCooper {
			t.Errorf("%s: Set %v, %d", what, l, e)
		}
	}
}

func TestPilesThatAreRight(t *testing.T) { // P6.1
	for i, x := range []struct {
		p    api.BarrelPile
		want int
	}{
		{pile(), 3}, {wholePile(), 1},
		{api.BarrelPile{Staves: []int{1}, Girth: 1}, 1},
		{api.BarrelPile{Staves: []int{500}, Girth: 500, Play: 100}, 1},
		{api.BarrelPile{Staves: []int{1, 500}, Girth: 1, Play: 0}, 1},
		{api.BarrelPile{Staves: []int{500}, Girth: 5000, Play: 0}, 0},
		{api.BarrelPile{Staves: slices.Repeat([]int{1}, 10), Girth: 1, Play: 100}, 10},
	} {
		is, f := barrel.AreBarrels(x.p, nil)
		if e := barrel.CheckPile(x.p); e != api.OK || f != api.OK || !is {
			t.Errorf("the pile %d: %d, %d, %v", i, e, f, is)
		}
		rightSet(t, x.p, x.want)
	}
}

func TestAreBarrels(t *testing.T) { // P6.1
	loose, ten := api.BarrelPile{Staves: []int{4, 9, 2}, Girth: 10, Play: 10}, slices.Repeat([]int{20}, 10)
	for i, x := range []struct {
		p    api.BarrelPile
		l    [][]int
		want bool
	}{
		{pile(), nil, true}, {pile(), [][]int{}, true},
		{pile(), [][]int{{1, 2}, {3, 5}}, true}, {pile(), [][]int{{3, 5}, {1, 2}}, true}, {pile(), [][]int{{3, 5}, {0, 4, 6}, {1, 2}}, true},
		{pile(), [][]int{{0, 1}}, false}, // 70 is too little
		{pile(), [][]int{{0, 5}}, true},  // 90 is just enough
		{pile(), [][]int{{2, 6}}, false}, {pile(), [][]int{{0, 6, 3}}, false},
		{pile(), [][]int{{0, 3, 6}}, true}, // 90 of three staves
		{pile(), [][]int{{1, 5}}, true},    // 100 is just not too much
		{pile(), [][]int{{4, 5}}, false},   // 105 is too much
		{pile(), [][]int{{0, 1, 3}}, false},
		{pile(), [][]int{{2, 1}}, false}, {pile(), [][]int{{4, 0, 6}}, false}, {pile(), [][]int{{0, 6, 4}}, false}, // they do not increase
		{pile(), [][]int{{2, 2}}, false}, {pile(), [][]int{{0, 0, 1}}, false}, {pile(), [][]int{{1, 0, 0}}, false}, // nor strictly
		{pile(), [][]int{{1, 2}, {1, 5}}, false}, {pile(), [][]int{{1, 2}, {1, 2}}, false}, // one in common
		{pile(), [][]int{{1, 2}, {3, 5}, {2, 4}}, false}, {pile(), [][]int{{2, 4}, {0, 5}, {1, 2}}, false}, {pile(), [][]int{{0, 4, 6}, {1, 2}, {0, 5}}, false},
		{pile(), [][]int{nil}, false}, {pile(), [][]int{{1, 2}, {}}, false}, {pile(), [][]int{{}, {1, 2}}, false},
		{pile(), [][]int{{1, 2}, {0, 1}}, false}, {pile(), [][]int{{0, 1}, {1, 2}}, false}, // one of them is no barrel
		{pile(), [][]int{{7}}, false}, {pile(), [][]int{{5, 7}}, false}, {pile(), [][]int{{-1}}, false}, {pile(), [][]int{{-1, 5}}, false},
		{pile(), [][]int{{math.MinInt}}, false}, {pile(), [][]int{{math.MaxInt}}, false}, {pile(), [][]int{{math.MinInt, 1, 2, math.MaxInt}}, false}, {pile(), [][]int{{1, 2}, {3, 5, 10}}, false},
		{pile(), make([][]int, 1000), false}, {pile(), [][]int{make([]int, 1000)}, false},
		// where nothing is not too little, a barrel has a stave
		{loose, nil, true}, {loose, [][]int{{}}, false}, {loose, [][]int{{0}, nil}, false}, {loose, [][]int{{0}}, true}, {loose, [][]int{{2}, {1}, {0}}, true}, {loose, [][]int{{0, 2}, {1}}, true}, {loose, [][]int{{0, 1}}, false},
		{api.BarrelPile{Staves: ten, Girth: 20}, [][]int{{9}, {8}, {7}, {6}, {5}, {4}, {3}, {2}, {1}, {0}}, true},
		{api.BarrelPile{Staves: ten, Girth: 20}, [][]int{{9}, {8}, {7}, {6}, {5}, {4}, {3}, {2}, {1}, {0}, {9}}, false},
		{api.BarrelPile{Staves: ten, Girth: 21}, [][]int{{9}}, false},
		{api.BarrelPile{Staves: ten, Girth: 200}, [][]int{{0, 1, 2, 3, 4, 5, 6, 7, 8, 9}}, true},
		{wholePile(), [][]int{{0, 1, 2, 3, 4, 5, 6, 7, 8, 9}}, true}, {wholePile(), [][]int{{0, 1, 2, 3, 4, 5, 6, 7, 8}}, false},
	} {
		if is, e := barrel.AreBarrels(x.p, x.l); is != x.want || e != api.OK {
			t.Errorf("AreBarrels %d: %v, %d", i, is, e)
		}
	}
}

// rightSet holds what Set returns to how many barrels can be set up.
func rightSet(t *testing.T, p api.BarrelPile, want int) {
	t.Helper()
	l, e := barrel.Set(p)
	if want == 0 {
		if len(l) != 0 || e != api.ErrNone {
			t.Errorf("%v: Set %v, %d; there is none", p, l, e)
		}
		return
	}
	if len(l) != want || !areBarrels(p, l) || e != api.OK {
		t.Errorf("%v: Set %v, %d; not %d", p, l, e, want)
	}
	if is, e := barrel.AreBarrels(p, l); !is || e != api.OK {
		t.Errorf("%v: AreBarrels of the set %v: %v, %d", p, l, is, e)
	}
}

func TestSet(t *testing.T) { // P6.1
	tight := pile()
	tight.Play = 0
	for _, x := range []struct {
		p    api.BarrelPile
		want int
	}{
		{pile(), 3}, {tight, 2},
		{api.BarrelPile{Staves: []int{30, 40}, Girth: 100, Play: 10}, 0}, // together too little
		{api.BarrelPile{Staves: []int{30, 40}, Girth: 29, Play: 100}, 0}, // each of them too much
		{api.BarrelPile{Staves: []int{30, 40}, Girth: 30, Play: 0}, 1},
		{api.BarrelPile{Staves: []int{7}, Girth: 8, Play: 0}, 0},
		{api.BarrelPile{Staves: []int{7}, Girth: 8, Play: 1}, 1},
		{api.BarrelPile{Staves: []int{7}, Girth: 6, Play: 100}, 0},
		{api.BarrelPile{Staves: []int{5, 5, 5, 5}, Girth: 5}, 4},
		{api.BarrelPile{Staves: []int{1, 2, 3}, Girth: 3, Play: 100}, 3},            // alone they are enough
		{api.BarrelPile{Staves: []int{6, 5, 2, 1}, Girth: 7}, 2},                    // not 5 with 2, so that 6 is left
		{api.BarrelPile{Staves: []int{4, 3, 3, 2, 2, 2}, Girth: 8}, 2},              // of three staves each
		{api.BarrelPile{Staves: []int{3, 3, 2, 2, 2}, Girth: 6}, 2},                 // not 2 with one of 3
		{api.BarrelPile{Staves: []int{9, 1, 8, 2, 7, 3, 6, 4, 5, 5}, Girth: 10}, 5}, // in pairs
		{api.BarrelPile{Staves: []int{1, 2, 3, 4, 5, 5, 6, 7, 8, 9}, Girth: 10}, 5}, // in any order
		{api.BarrelPile{Staves: []int{500, 400, 300, 200, 100, 50, 450, 350, 250, 150}, Girth: 500}, 5},
		{api.BarrelPile{Staves: []int{99, 1, 50, 50, 33, 33, 34, 20, 40, 40}, Girth: 100}, 4}, // of two, of two and of three twice
		{api.BarrelPile{Staves: []int{7, 100, 7, 100, 7, 100}, Girth: 107}, 3},
		{api.BarrelPile{Staves: []int{100, 100, 7, 7, 1}, Girth: 108, Play: 1}, 2},          // the stave 4 is not needed
		{api.BarrelPile{Staves: []int{1, 100, 100, 100}, Girth: 100, Play: 0}, 3},           // nor is the stave 0
		{api.BarrelPile{Staves: []int{2, 2, 2, 2, 2, 2, 2, 2, 2, 2}, Girth: 7, Play: 1}, 3}, // a stave is left over
		{api.BarrelPile{Staves: slices.Repeat([]int{500}, 10), Girth: 4999, Play: 100}, 0},  // 4500 or 5000
		{api.BarrelPile{Staves: slices.Repeat([]int{500}, 10), Girth: 1000, Play: 0}, 5},
	} {
		rightSet(t, x.p, x.want)
	}
}

func TestSetAgainstTheOracle(t *testing.T) { // P6.1, P6.7
	r := rand.New(rand.NewPCG(6, 1))
	found := map[int]int{}
	for i := range 600 {
		staves := 7
		if i%4 == 0 {
			staves = api.BarrelStaves
		}
		p := anyPile(r, staves)
		want := mostBarrels(p)
		rightSet(t, p, want)
		found[min(want, 4)]++
	}
	for n := range 5 {
		if found[n] < 20 {
			t.Errorf("%d barrels can be set up only %d times", n, found[n])
		}
	}
}

func TestAreBarrelsAgainstTheOracle(t *testing.T) { // P6.1
	r := rand.New(rand.NewPCG(6, 2))
	found := map[bool]int{}
	for range 6000 {
		p := anyPile(r, 8)
		l := anyLists(r, p)
		want := areBarrels(p, l)
		if is, e := barrel.AreBarrels(p, l); is != want || e != api.OK {
			t.Fatalf("%v: AreBarrels of %v: %v, %d; not %v", p, l, is, e, want)
		}
		if len(l) > 1 {
			found[want]++
		}
	}
	if found[true] < 200 || found[false] < 200 {
		t.Errorf("only %v", found)
	}
}
