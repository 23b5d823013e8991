package nets

import "drifter/api"

// side is the east or the north: what is asked of both alike.
type side struct {
	along int // how nets lie that are long on this side
	tide  func(api.NetsFleet) []api.Span
	place func(api.NetsSpot) int
	slip  func(net) api.Span
	said  func(truth) words
}

func eastSide() side {
	return side{
		along: api.NetsEast,
		tide:  func(f api.NetsFleet) []api.Span { return f.East },
		place: func(at api.NetsSpot) int { return at.East },
		slip:  func(n net) api.Span { return n.SlipEast },
		said:  truth.east,
	}
}

func northSide() side {
	return side{
		along: api.NetsNorth,
		tide:  func(f api.NetsFleet) []api.Span { return f.North },
		place: func(at api.NetsSpot) int { return at.North },
		slip:  func(n net) api.Span { return n.SlipNorth },
		said:  truth.north,
	}
}

func sides() [2]side { return [2]side{eastSide(), northSide()} }

// distance says between what lies how far the first net of a pair is from the second one on a side, in an hour.
type distance func(s side, p pair, hour int) api.Span

// near returns between what lies how far the first net of a pair is from the second one where they foul on this side.
func (s side) near(p pair, gap int) api.Span {
	return api.Span{Low: -gap - s.long(p.first), High: gap + s.long(p.second)}
}

// long returns how far a net reaches on this side.
func (s side) long(n net) int {
	if n.Along == s.along {
		return n.Long
	}
	return 0
}
