package brand

import "drifter/api"

// mark is a brand.
type mark api.BrandMark

func areMarks(l []api.BrandMark) bool {
	for _, m := range l {
		for _, s := range m {
			if !isSpan(s, api.BrandMost) {
				return false
			}
		}
	}
	return isIn(len(l), 1, api.BrandMarks)
}

// widest returns a brand that all barrels reach, and that nothing reaches that is no barrel.
func widest() mark {
	var m mark
	for quality := range m {
		m[quality] = api.Span{High: api.BrandMost}
	}
	return m
}

func areBarrels(l []api.BrandBarrel) bool { return widest().below(l) == 0 }

// nearest returns a barrel with each quality brought to where it is within its span.
func (m mark) nearest(b api.BrandBarrel) api.BrandBarrel {
	for quality, s := range m {
		b[quality] = min(max(b[quality], s.Low), s.High)
	}
	return b
}

func (m mark) isBelow(b api.BrandBarrel) bool { return m.nearest(b) != b }

func (m mark) isReached(b api.BrandBarrel) bool { return m.nearest(b) == b }

// below returns how many of some barrels are below a brand.
func (m mark) below(l []api.BrandBarrel) int { return count(l, m.isBelow) }

// count returns of how many elements of a list something is so.
func count[T any](l []T, is func(T) bool) int {
	n := 0
	for _, x := range l {
		if is(x) {
			n++
		}
	}
	return n
}

// sample is the barrels of a lot that were opened, and how many of them may be below a brand.
type sample struct {
	opened []api.BrandBarrel
	allow  int
}

func (m mark) isPromised(s sample) bool { return m.below(s.opened) <= s.allow }

// first returns the number of the first brand of which something is so for x, or none.
func first[T any](l []api.BrandMark, x T, is func(mark, T) bool) int {
	for i, m := range l {
		if is(mark(m), x) {
			return i
		}
	}
	return none
}
