package nets

import "drifter/api"

// truth is a truth that is told.
type truth struct{ api.NetsTruth }

// words is what a truth says of one side: how far the tide carries nets, hour by hour, and how far they slip, net by net.
type words struct{ tide, slips []int }

func (t truth) east() words { return words{t.East, t.SlipEast} }

func (t truth) north() words { return words{t.North, t.SlipNorth} }

// night is a fleet, and a truth of it that is told.
type night struct {
	fleet
	told truth
}

func newNight(f api.NetsFleet, t api.NetsTruth) (night, api.Errno) {
	w, e := newFleet(f)
	if e != api.OK {
		return night{}, e
	}
	told := truth{t}
	for _, s := range sides() {
		said := s.said(told)
		if !areWithin(said.tide, s.tide(f)) || !areWithin(said.slips, w.slips(s)) {
			return night{}, api.ErrNetsTruth
		}
	}
	return night{w, told}, api.OK
}

// slips returns between what lies how far the nets slip on a side, net by net.
func (f fleet) slips(s side) []api.Span {
	var l []api.Span
	for _, n := range f.nets {
		l = append(l, s.slip(n))
	}
	return l
}

// where returns where a net lies on a side, in an hour in which it does.
func (w night) where(s side, n net, hour int) int {
	said := s.said(w.told)
	at := s.place(n.At) + said.slips[n.number]*(hour-n.Shot)
	for _, flow := range said.tide[n.Shot:hour:hour] {
		at += flow
	}
	return at
}

// lying returns how far nets are apart that lie where it is said.
func lying(where func(side, net, int) int) distance {
	return func(s side, p pair, hour int) api.Span {
		return only(where(s, p.first, hour) - where(s, p.second, hour))
	}
}
