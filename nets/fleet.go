package nets

import "drifter/api"

// net is a net of a fleet, with its number.
type net struct {
	api.NetsShot
	number int
}

func (n net) lies(hour int) bool { return isIn(hour, n.Shot, n.Haul) }

// pair is two nets.
type pair struct{ first, second net }

// fleet is a valid fleet.
type fleet struct {
	api.NetsFleet
	nets []net
}

func newFleet(f api.NetsFleet) (fleet, api.Errno) {
	if !isFleet(f) {
		return fleet{}, api.ErrNets
	}
	w := fleet{NetsFleet: f}
	for i, shot := range f.Nets {
		w.nets = append(w.nets, net{shot, i})
	}
	return w, api.OK
}

func isFleet(f api.NetsFleet) bool {
	hours := len(f.East)
	if !isIn(hours, 1, api.NetsHours) || len(f.North) != hours ||
		!areSpans(api.NetsFlow, f.East...) || !areSpans(api.NetsFlow, f.North...) ||
		!isIn(f.Gap, 0, api.NetsGap) || !isIn(len(f.Nets), 1, api.NetsNets) {
		return false
	}
	for _, n := range f.Nets {
		if !isNet(n, hours) {
			return false
		}
	}
	return true
}

func isNet(n api.NetsShot, hours int) bool {
	return isIn(n.At.East, -api.NetsPlace, api.NetsPlace) && isIn(n.At.North, -api.NetsPlace, api.NetsPlace) &&
		isIn(n.Long, 0, api.NetsLong) && (n.Along == api.NetsEast || n.Along == api.NetsNorth) &&
		isIn(n.Shot, 0, hours-1) && isIn(n.Haul, n.Shot, hours) &&
		areSpans(api.NetsSlip, n.SlipEast, n.SlipNorth)
}

func (f fleet) has(number int) bool { return isIn(number, 0, len(f.nets)-1) }

// hasLying reports whether a number is that of a net that lies in an hour.
func (f fleet) hasLying(number, hour int) bool { return f.has(number) && f.nets[number].lies(hour) }

// together produces all pairs that lie together, with the hour: hour by hour, the pairs of each in the order of their numbers.
func (f fleet) together(yield func(int, pair) bool) {
	// nets can lie until after the last tide
	for hour := range len(f.East) + 1 {
		for i, a := range f.nets {
			for _, b := range f.nets[i+1:] {
				if a.lies(hour) && b.lies(hour) && !yield(hour, pair{a, b}) {
					return
				}
			}
		}
	}
}

// apart returns between what lies, over all truths, how far the first net of a pair is from the second one on a side.
func (f fleet) apart(s side, p pair, hour int) api.Span {
	start := s.place(p.first.At) - s.place(p.second.At)
	return sum(only(start), f.alone(s, p.first, p.second, hour), minus(f.alone(s, p.second, p.first, hour)))
}

// alone returns between what lies how far a net is carried by an hour, but for what carries another one as far: a tide counts only before the other one is shot.
func (f fleet) alone(s side, n, other net, hour int) api.Span {
	_, until := ends(n.Shot, other.Shot)
	tide := s.tide(f.NetsFleet)[n.Shot:until:until]
	return sum(sum(tide...), times(s.slip(n), hour-n.Shot))
}

// fouls reports whether a pair fouls on both sides, if it is apart as is told. What is so of the one side says nothing of the other: so it can foul if it can on each.
func (f fleet) fouls(p pair, hour int, apart distance) bool {
	for _, s := range sides() {
		if !meet(apart(s, p, hour), s.near(p, f.Gap)) {
			return false
		}
	}
	return true
}

// firstFoul returns the first hour and pair that fouls, if all are apart as is told.
func (f fleet) firstFoul(apart distance) (api.NetsFoul, api.Errno) {
	for hour, p := range f.together {
		if f.fouls(p, hour, apart) {
			return api.NetsFoul{Hour: hour, First: p.first.number, Second: p.second.number}, api.OK
		}
	}
	return api.NetsFoul{}, api.ErrNone
}

// barred returns between what the numbers lie by which a net cannot be shot farther to the east, as it could foul then: a span for each hour and other net.
func (f fleet) barred(number int) []api.Span {
	var l []api.Span
	for hour, p := range f.together {
		if p.second.number == number {
			p = pair{p.second, p.first}
		}
		if p.first.number != number || !meet(f.apart(northSide(), p, hour), northSide().near(p, f.Gap)) {
			continue
		}
		l = append(l, sum(eastSide().near(p, f.Gap), minus(f.apart(eastSide(), p, hour))))
	}
	return l
}
