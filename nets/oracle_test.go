package nets_test

import (
	"iter"
	"math/rand/v2"
	"slices"

	"drifter/api"
)

// This file says by enumeration what the document says in words; it shares no code with the package.

// spansOf returns all spans of a fleet, in the order of what a truth says.
func spansOf(f api.NetsFleet) []*api.Span {
	var l []*api.Span
	for i := range f.East {
		l = append(l, &f.East[i])
	}
	for i := range f.North {
		l = append(l, &f.North[i])
	}
	for i := range f.Nets {
		l = append(l, &f.Nets[i].SlipEast)
	}
	for i := range f.Nets {
		l = append(l, &f.Nets[i].SlipNorth)
	}
	return l
}

// truthOf returns the truth that says these numbers of all spans.
func truthOf(f api.NetsFleet, said []int) api.NetsTruth {
	h, n := len(f.East), len(f.Nets)
	said = slices.Clone(said)
	return api.NetsTruth{East: said[:h:h], North: said[h : 2*h : 2*h], SlipEast: said[2*h : 2*h+n : 2*h+n], SlipNorth: said[2*h+n:]}
}

// truths produces all truths of a fleet that can be told.
func truths(f api.NetsFleet) iter.Seq[api.NetsTruth] {
	return func(yield func(api.NetsTruth) bool) {
		spans := spansOf(f)
		said := make([]int, len(spans))
		var say func(i int) bool
		say = func(i int) bool {
			if i == len(spans) {
				return yield(truthOf(f, said))
			}
			for n := spans[i].Low; n <= spans[i].High; n++ {
				said[i] = n
				if !say(i + 1) {
					return false
				}
			}
			return true
		}
		say(0)
	}
}

func isLying(f api.NetsFleet, net, hour int) bool {
	return f.Nets[net].Shot <= hour && hour <= f.Nets[net].Haul
}

func placeOf(f api.NetsFleet, t api.NetsTruth, net, hour int) api.NetsSpot {
	at := f.Nets[net].At
	for h := f.Nets[net].Shot; h < hour; h++ {
		at.East += t.East[h] + t.SlipEast[net]
		at.North += t.North[h] + t.SlipNorth[net]
	}
	return at
}

// covers returns what a net covers: its least and its greatest place.
func covers(f api.NetsFleet, t api.NetsTruth, net, hour int) (from, to api.NetsSpot) {
	from = placeOf(f, t, net, hour)
	to = from
	if f.Nets[net].Along == api.NetsEast {
		to.East += f.Nets[net].Long
	} else {
		to.North += f.Nets[net].Long
	}
	return from, to
}

func isFoul(f api.NetsFleet, t api.NetsTruth, x api.NetsFoul) bool {
	if !isLying(f, x.First, x.Hour) || !isLying(f, x.Second, x.Hour) {
		return false
	}
	a, aEnd := covers(f, t, x.First, x.Hour)
	b, bEnd := covers(f, t, x.Second, x.Hour)
	return max(0, b.East-aEnd.East, a.East-bEnd.East) <= f.Gap && max(0, b.North-aEnd.North, a.North-bEnd.North) <= f.Gap
}

// meetings returns all hours and pairs, in their order.
func meetings(f api.NetsFleet) []api.NetsFoul {
	var l []api.NetsFoul
	for hour := range len(f.East) + 1 {
		for first := range f.Nets {
			for second := first + 1; second < len(f.Nets); second++ {
				l = append(l, api.NetsFoul{Hour: hour, First: first, Second: second})
			}
		}
	}
	return l
}

// foulsOf returns all that fouls in a truth, in its order.
func foulsOf(f api.NetsFleet, t api.NetsTruth) []api.NetsFoul {
	return slices.DeleteFunc(meetings(f), func(x api.NetsFoul) bool { return !isFoul(f, t, x) })
}

// possible returns all that can foul, in its order: what fouls in one truth or another.
func possible(f api.NetsFleet) []api.NetsFoul {
	can := map[api.NetsFoul]bool{}
	for t := range truths(f) {
		for _, x := range foulsOf(f, t) {
			can[x] = true
		}
	}
	return slices.DeleteFunc(meetings(f), func(x api.NetsFoul) bool { return !can[x] })
}

// firstOf returns the first of a list, and ErrNone if there is none.
func firstOf(l []api.NetsFoul) (api.NetsFoul, api.Errno) {
	if len(l) == 0 {
		return api.NetsFoul{}, api.ErrNone
	}
	return l[0], api.OK
}

// shiftOf shoots a net farther, number by number, until nothing that has it can foul.
func shiftOf(f api.NetsFleet, net, most int) (int, api.Errno) {
	for by := range most + 1 {
		g := copyOf(f)
		g.Nets[net].At.East += by
		if !slices.ContainsFunc(possible(g), func(x api.NetsFoul) bool { return x.First == net || x.Second == net }) {
			return by, api.OK
		}
	}
	return 0, api.ErrNone
}

func copyOf(f api.NetsFleet) api.NetsFleet {
	f.East, f.North, f.Nets = slices.Clone(f.East), slices.Clone(f.North), slices.Clone(f.Nets)
	return f
}

func between(r *rand.Rand, low, high int) int { return low + r.IntN(high-low+1) }

func anySpan(r *rand.Rand, most int) api.Span {
	low := between(r, -most, most)
	return api.Span{Low: low, High: between(r, low, most)}
}

// anyFleet returns a fleet whose numbers are small, and near enough to each other to foul now and then.
func anyFleet(r *rand.Rand) api.NetsFleet {
	hours := between(r, 1, 4)
	f := api.NetsFleet{Gap: r.IntN(3)}
	for range hours {
		f.East = append(f.East, anySpan(r, 3))
		f.North = append(f.North, anySpan(r, 2))
	}
	for range between(r, 1, 4) {
		n := api.NetsShot{At: api.NetsSpot{East: between(r, -9, 9), North: between(r, -6, 6)}, Long: r.IntN(6), Along: r.IntN(2), Shot: r.IntN(hours)}
		n.Haul = between(r, n.Shot, hours)
		n.SlipEast, n.SlipNorth = anySpan(r, 2), anySpan(r, 1)
		f.Nets = append(f.Nets, n)
	}
	return f
}

// tell narrows spans of a fleet, any of them, until it has so few truths that all can be listed.
func tell(r *rand.Rand, f api.NetsFleet, most int) api.NetsFleet {
	f = copyOf(f)
	spans := spansOf(f)
	for {
		many := 1
		for _, s := range spans {
			many *= s.High - s.Low + 1
		}
		if many <= most {
			return f
		}
		if s := spans[r.IntN(len(spans))]; s.Low < s.High {
			s.High--
		}
	}
}

// anyTruth returns a truth of a fleet.
func anyTruth(r *rand.Rand, f api.NetsFleet) api.NetsTruth {
	var said []int
	for _, s := range spansOf(f) {
		said = append(said, between(r, s.Low, s.High))
	}
	return truthOf(f, said)
}

// each calls a function with many fleets, the same ones each time.
func each(many int, call func(r *rand.Rand, f api.NetsFleet)) {
	r := rand.New(rand.NewPCG(2, 19))
	for range many {
		call(r, anyFleet(r))
	}
}
