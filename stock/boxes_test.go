package stock_test

import (
	"math"
	"math/rand/v2"
	"slices"
	"testing"

	"drifter/api"
	"drifter/stock"
)

// cells and boxes are those of the document.
func cells() []api.StockCell {
	return []api.StockCell{cell(50, 8), cell(30, 5), cell(20, 1), cell(10, 4)}
}

func boxes() [][]int { return [][]int{{0, 1}, {1, 2}, {2, 3}} }

func TestBoxes(t *testing.T) { // P9.6, R3, R6
	even := []api.StockCell{cell(5, 3), cell(5, 2), cell(5, 3)}
	bare := []api.StockCell{cell(0, 5), cell(5, 0), cell(0, 0)}
	great := slices.Repeat([]api.StockCell{cell(10000, 10000)}, 12)
	var single [][]int
	for number := range 8 {
		single = append(single, []int{number})
	}
	all := []int{0, 1, 2, 3, 4, 5, 6, 7, 8, 9, 10, 11}
	for i, x := range []struct {
		cells []api.StockCell
		boxes [][]int
		most  int
		want  closure
	}{
		{cells(), boxes(), 0, closure{}}, {cells(), boxes(), 1, closure{[]int{0}, 80, 13}}, {cells(), boxes(), 2, closure{[]int{0, 2}, 110, 18}}, {cells(), boxes(), 3, closure{[]int{0, 2}, 110, 18}}, {cells(), boxes(), 8, closure{[]int{0, 2}, 110, 18}},
		// without cells, without boxes, with empty ones
		{nil, nil, 8, closure{}}, {[]api.StockCell{}, [][]int{}, 0, closure{}}, {cells(), nil, 8, closure{}}, {nil, [][]int{nil, {}}, 2, closure{}}, {cells(), make([][]int, 8), 8, closure{}},
		{cells(), [][]int{nil, {3}, {3}}, 2, closure{[]int{1}, 10, 4}}, {cells(), [][]int{nil, {3}, {}}, 3, closure{[]int{1}, 10, 4}},
		// a cell counts once
		{cells(), [][]int{{0, 1}, {0, 1, 2}}, 2, closure{[]int{1}, 100, 14}}, {cells(), [][]int{{0, 1, 2}, {1, 2, 3}}, 2, closure{[]int{0, 1}, 110, 18}},
		// fewer boxes are better, also if their list comes later
		{cells(), [][]int{{1}, {0, 1}, {0}}, 2, closure{[]int{1}, 80, 13}}, {cells(), [][]int{{0}, {1}, {0, 1}}, 3, closure{[]int{2}, 80, 13}}, {cells(), [][]int{{0}, {1}, {2}, {0, 1}, {3}, {2, 3}}, 5, closure{[]int{3, 5}, 110, 18}},
		// as many are spared, with a lesser loss
		{even, [][]int{{0}, {1}, {2}}, 1, closure{[]int{1}, 5, 2}}, {even, [][]int{{0}, {1}, {2}}, 2, closure{[]int{0, 1}, 10, 5}}, {even, [][]int{{0, 1}, {2}, {1}}, 2, closure{[]int{0, 1}, 15, 8}},
		// a lesser loss is better than fewer boxes
		{[]api.StockCell{cell(5, 0), cell(5, 0), cell(10, 1)}, [][]int{{2}, {0}, {1}}, 2, closure{[]int{0, 1}, 15, 1}}, {[]api.StockCell{cell(5, 0), cell(5, 0), cell(0, 1)}, [][]int{{0, 1, 2}, {0}, {1}}, 3, closure{[]int{1, 2}, 10, 0}},
		// boxes that only lose, and such that neither spare nor lose
		{bare, [][]int{{0}}, 1, closure{}}, {bare, [][]int{{2}}, 1, closure{}}, {bare, [][]int{{0}, {2}}, 2, closure{}}, {bare, [][]int{{2}, {1}, {0}}, 3, closure{[]int{1}, 5, 0}}, {bare, [][]int{{0, 1}, {1, 2}}, 2, closure{[]int{1}, 5, 0}}, {bare, [][]int{{0, 1}}, 1, closure{[]int{0}, 5, 5}},
		// of several the first ones
		{even, [][]int{{0}, {2}, {0}}, 1, closure{[]int{0}, 5, 3}}, {even, [][]int{{2}, {0}}, 1, closure{[]int{0}, 5, 3}}, {even, [][]int{{0}, {0}, {2}, {2}}, 2, closure{[]int{0, 2}, 10, 6}}, {even, [][]int{{0}, {0}, {2}, {1}, {2}, {1}}, 4, closure{[]int{0, 2, 3}, 15, 8}},
		{cells(), [][]int{{1, 2}, {0}, {0, 1}, {2}}, 2, closure{[]int{0, 1}, 100, 14}}, {cells(), [][]int{{2}, {1, 2}, {0, 1}, {0}}, 2, closure{[]int{0, 2}, 100, 14}},
		// the greatest seas
		{great, [][]int{all}, 1, closure{[]int{0}, 120000, 120000}}, {great, single, 8, closure{[]int{0, 1, 2, 3, 4, 5, 6, 7}, 80000, 80000}}, {great, single, 3, closure{[]int{0, 1, 2}, 30000, 30000}},
		{great, slices.Repeat([][]int{all}, 8), 8, closure{[]int{0}, 120000, 120000}},
	} {
		if l, spared, lost, e := stock.Boxes(x.cells, x.boxes, x.most); !slices.Equal(l, x.want.boxes) || spared != x.want.spared || lost != x.want.lost || e != api.OK {
			t.Errorf("Boxes %d: %v, %d, %d, %d, not %v", i, l, spared, lost, e, x.want)
		}
	}
}

func TestWrongBoxes(t *testing.T) { // P9.6, R1, R2
	ask := func(what string, cells []api.StockCell, boxes [][]int, most int, want api.Errno) {
		if l, spared, lost, e := stock.Boxes(cells, boxes, most); l != nil || spared != 0 || lost != 0 || e != want {
			t.Errorf("Boxes of %s: %v, %d, %d, %d, not %d", what, l, spared, lost, e, want)
		}
	}
	for _, most := range []int{-1, 9, math.MinInt, math.MaxInt, 2} {
		for _, l := range [][]api.StockCell{make([]api.StockCell, 13), append(cells(), cell(10001, 0)), append(cells(), cell(0, 10001)), append(cells(), cell(-1, 0)), append(cells(), cell(0, -1)), append([]api.StockCell{cell(math.MinInt, 0)}, cells()...), append(cells(), cell(0, math.MaxInt)), append(cells(), cell(math.MaxInt, 0)), append(cells(), cell(0, math.MinInt))} {
			ask("wrong cells", l, boxes(), most, api.ErrStockBox)
			ask("wrong cells without boxes", l, nil, most, api.ErrStockBox)
		}
		for _, l := range [][][]int{make([][]int, 9), {{1, 0}}, {{1, 1}}, {{0, 2, 1}}, {{0, 1, 1}}, {{4}}, {{0, 4}}, {{-1}}, {{-1, 0}}, {{math.MinInt}}, {{math.MaxInt}}, {{0, math.MinInt}}, {{0, math.MaxInt}}, {{0}, {1}, {3, 2}}, {{0, 1, 2, 3, 4}}} {
			ask("wrong boxes", cells(), l, most, api.ErrStockBox)
		}
		ask("boxes without cells", nil, [][]int{{0}}, most, api.ErrStockBox)
		if most != 2 {
			ask("too few or too many", cells(), boxes(), most, api.ErrRange)
			ask("too few or too many of none", nil, nil, most, api.ErrRange)
		}
	}
}

func TestAllBoxes(t *testing.T) { // P9.6
	r := rand.New(rand.NewPCG(9, 6))
	fewer, several := 0, 0
	for range 3000 {
		sea, own := anySea(r, []int{1, 2, 5, 10000}[r.IntN(4)])
		for most := range 9 {
			all := closures(sea, own, most)
			want := bestOf(all)
			if l, spared, lost, e := stock.Boxes(sea, own, most); !slices.Equal(l, want.boxes) || spared != want.spared || lost != want.lost || e != api.OK {
				t.Fatalf("Boxes of %v, %v, %d: %v, %d, %d, %d, not %v", sea, own, most, l, spared, lost, e, want)
			}
			if len(want.boxes) < min(most, len(own)) {
				fewer++
			}
			for _, c := range all {
				if c.spared == want.spared && c.lost == want.lost && len(c.boxes) == len(want.boxes) && !slices.Equal(c.boxes, want.boxes) {
					several++
					break
				}
			}
		}
	}
	if fewer < 2000 || several < 1000 {
		t.Errorf("only %d choices are of fewer boxes than can be, %d are the first of several", fewer, several)
	}
}
