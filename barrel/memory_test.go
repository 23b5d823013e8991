package barrel_test

import (
	"math"
	"math/rand/v2"
	"reflect"
	"slices"
	"testing"

	"drifter/api"
	"drifter/barrel"
)

// roomy returns a copy of a list with room behind it.
func roomy[T any](l []T) []T { return append(make([]T, 0, len(l)+20), l...) }

// behind reports whether something was written behind the end of a list.
func behind[T comparable](l []T) bool {
	var none T
	return slices.ContainsFunc(l[len(l):cap(l)], func(x T) bool { return x != none })
}

// deep returns a copy of a list of lists.
func deep(l [][]int) [][]int {
	var all [][]int
	for _, x := range l {
		all = append(all, slices.Clone(x))
	}
	return all
}

// Arguments are as they were, also behind the end of a list.
func TestArguments(t *testing.T) { // P6.6, R4
	p, l := pile(), [][]int{roomy([]int{1, 2}), roomy([]int{3, 5})}
	p.Staves, l = roomy(p.Staves), roomy(l)
	y, plan, leaks := roomy(yard()), roomy([]int{-1, 0}), [][]int{roomy([]int{10, 8}), roomy([]int{5, 2})}
	leaks = roomy(leaks)
	b, counts := book(9), roomy([]int{11, 8, 3, 8})
	b.Moves = roomy(b.Moves)
	for range 2 {
		barrel.CheckPile(p)
		barrel.AreBarrels(p, l)
		barrel.Set(p)
		barrel.CheckYard(y)
		barrel.Run(y, plan, leaks)
		barrel.First(y, 12)
		barrel.Keep(y, 12)
		barrel.CheckBook(b)
		barrel.AreCounts(b, counts)
		barrel.Balance(b)
		barrel.Proves(b, 3)
		barrel.Proof(b)
	}
	if !reflect.DeepEqual(p, pile()) || !reflect.DeepEqual(l, [][]int{{1, 2}, {3, 5}}) {
		t.Errorf("the pile is %v, the barrels %v", p, l)
	}
	if !slices.Equal(y, yard()) || !slices.Equal(plan, []int{-1, 0}) || !reflect.DeepEqual(leaks, [][]int{{10, 8}, {5, 2}}) {
		t.Errorf("the yard is %v, the plan %v, the leaks %v", y, plan, leaks)
	}
	if !reflect.DeepEqual(b, book(9)) || !slices.Equal(counts, []int{11, 8, 3, 8}) {
		t.Errorf("the book is %v, the counts %v", b, counts)
	}
	lists := behind(p.Staves) || behind(y) || behind(plan) || behind(b.Moves) || behind(counts)
	for _, x := range slices.Concat(l, leaks) {
		lists = lists || behind(x)
	}
	for _, x := range slices.Concat(l[len(l):cap(l)], leaks[len(leaks):cap(leaks)]) {
		lists = lists || x != nil
	}
	if lists {
		t.Error("something was written behind an argument")
	}
}

// What is written into results does not change what is called then, nor another list of the same result.
func TestResults(t *testing.T) { // P6.6, R4, P2
	p, y, b := pile(), yard(), book(9)
	sets, _ := barrel.Set(p)
	for i, l := range sets {
		kept := deep(sets)
		clear(l[:cap(l)])
		kept[i] = l
		if !reflect.DeepEqual(sets, kept) {
			t.Errorf("lists of a result share memory: %v, not %v", sets, kept)
		}
	}
	clear(sets[:cap(sets)])
	rightSet(t, p, 3)
	levels, _, _ := barrel.Run(y, nil, nil)
	clear(levels[:cap(levels)])
	plan, _ := barrel.Keep(y, 12)
	clear(plan[:cap(plan)])
	rightPlan(t, y, 12, true)
	if levels, d, e := barrel.Run(y, nil, nil); !slices.Equal(levels, []int{50, 40}) || d != -1 || e != api.OK {
		t.Errorf("Run: %v, %d, %d", levels, d, e)
	}
	spans, _ := barrel.Balance(b)
	clear(spans[:cap(spans)])
	rightBalance(t, b, []api.Span{to(10, 13), to(6, 9), to(2, 4), to(6, 9)})
	if !reflect.DeepEqual(p, pile()) || !slices.Equal(y, yard()) || !reflect.DeepEqual(b, book(9)) {
		t.Errorf("a result is a part of an argument: %v, %v, %v", p, y, b)
	}
}

// An argument that is changed later does not change a result, nor what is called then.
func TestArgumentsAfterwards(t *testing.T) { // P6.6, R4, P2
	p, y, b := pile(), yard(), book(9)
	sets, _ := barrel.Set(p)
	plan, _ := barrel.Keep(y, 4)
	leaks, counts := greatest(y, 4), []int{11, 8, 3, 8}
	levels, _, _ := barrel.Run(y, plan, leaks)
	spans, _ := barrel.Balance(b)
	keptSets, keptPlan, keptLevels, keptSpans := deep(sets), slices.Clone(plan), slices.Clone(levels), slices.Clone(spans)
	for i := range leaks {
		leaks[i][0], leaks[i][1] = 5, 2
	}
	if l, d, e := barrel.Run(y, []int{-1, -1, -1, -1}, leaks); !slices.Equal(l, []int{30, 32}) || d != -1 || e != api.OK {
		t.Errorf("leaks are kept: %v, %d, %d", l, d, e)
	}
	p.Staves[0], p.Staves[6] = 1, 1
	y[0], y[1] = cask(7, 9, 0, 9), cask(8, 9, 8, 1)
	b.Moves[3].Count.High, counts[0] = 4, 12
	rightSet(t, p, 2)
	rightPlan(t, y, 1, false)
	if l, d, e := barrel.Run(y, nil, nil); !slices.Equal(l, []int{7, 8}) || d != -1 || e != api.OK {
		t.Errorf("a yard is kept: %v, %d, %d", l, d, e)
	}
	rightBalance(t, b, nil)
	if is, e := barrel.AreCounts(book(9), counts); is || e != api.OK {
		t.Errorf("counts are kept: %v, %d", is, e)
	}
	if !reflect.DeepEqual(sets, keptSets) || !slices.Equal(plan, keptPlan) || !slices.Equal(levels, keptLevels) || !slices.Equal(spans, keptSpans) {
		t.Errorf("results have changed: %v, %v, %v, %v", sets, plan, levels, spans)
	}
}

// A nil list is an empty one.
func TestEmptyLists(t *testing.T) { // R3
	for _, l := range [][][]int{nil, {}} {
		if is, e := barrel.AreBarrels(pile(), l); !is || e != api.OK {
			t.Errorf("no barrels: %v, %d", is, e)
		}
		for _, plan := range [][]int{nil, {}} {
			if levels, d, e := barrel.Run(yard(), plan, l); !slices.Equal(levels, []int{50, 40}) || d != -1 || e != api.OK {
				t.Errorf("no months: %v, %d, %d", levels, d, e)
			}
		}
	}
	if plan, e := barrel.Keep(yard(), 0); len(plan) != 0 || e != api.OK {
		t.Errorf("no months: %v, %d", plan, e)
	}
}

// Any numbers at all: most of them are wrong, and what is wrong is told in the order of the chapter.
func TestAnything(t *testing.T) { // P1, R1, R2
	r := rand.New(rand.NewPCG(6, 8))
	number := func() int {
		all := []int{math.MinInt, math.MinInt + 1, -1000, -2, -1, 0, 1, 2, 3, 5, 6, 10, 12, 13, 100, 101, 500, 501, 1000, 1001, 5000, 5001, math.MaxInt - 1, math.MaxInt}
		if r.IntN(3) > 0 {
			return between(r, 0, 4)
		}
		return all[r.IntN(len(all))]
	}
	numbers := func() []int {
		var l []int
		for range r.IntN(5) {
			l = append(l, number())
		}
		return l
	}
	lists := func() [][]int {
		var l [][]int
		for range r.IntN(4) {
			l = append(l, numbers())
		}
		return l
	}
	for range 20000 {
		p := api.BarrelPile{Staves: numbers(), Girth: number(), Play: number()}
		l := lists()
		e := barrel.CheckPile(p)
		is, f := barrel.AreBarrels(p, l)
		sets, g := barrel.Set(p)
		if f != e || is && (e != api.OK || !areBarrels(p, l)) || e != api.OK && (len(sets) != 0 || g != e) {
			t.Fatalf("%v: %d; AreBarrels of %v: %v, %d; Set %v, %d", p, e, l, is, f, sets, g)
		}
		var y []api.BarrelCask
		for range r.IntN(3) {
			y = append(y, api.BarrelCask{Level: number(), Full: number(), Line: number(), Leak: to(number(), number())})
		}
		plan, leaks, months := numbers(), lists(), number()
		e = barrel.CheckYard(y)
		levels, dry, f := barrel.Run(y, plan, leaks)
		first, month, g := barrel.First(y, months)
		keep, h := barrel.Keep(y, months)
		if e != api.OK && (f != e || g != e || h != e) || f != api.OK && (len(levels) != 0 || dry != 0) || g != api.OK && (first != 0 || month != 0) || h != api.OK && len(keep) != 0 {
			t.Fatalf("%v: %d; Run of %v, %v: %v, %d, %d; First within %d: %d, %d, %d; Keep %v, %d", y, e, plan, leaks, levels, dry, f, months, first, month, g, keep, h)
		}
		b := api.BarrelBook{Stations: number()}
		for range r.IntN(4) {
			b.Moves = append(b.Moves, api.BarrelMove{From: number(), To: number(), Count: to(number(), number())})
		}
		counts, set := numbers(), number()
		e = barrel.CheckBook(b)
		are, f := barrel.AreCounts(b, counts)
		spans, g := barrel.Balance(b)
		proof, h := barrel.Proves(b, set)
		found, i := barrel.Proof(b)
		if e != api.OK && (f != e || g != e || h != e || i != e) || f != api.OK && are || g != api.OK && len(spans) != 0 || h != api.OK && proof || i != api.OK && found != 0 {
			t.Fatalf("%v: %d; AreCounts of %v: %v, %d; Balance %v, %d; Proves of %d: %v, %d; Proof %d, %d", b, e, counts, are, f, spans, g, set, proof, h, found, i)
		}
	}
}
