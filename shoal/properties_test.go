package shoal_test

import (
	"math/rand/v2"
	"slices"
	"testing"

	"drifter/api"
	"drifter/shoal"
)

func TestShoalIsWhereItCanBe(t *testing.T) { // P1.8
	each(150, func(r *rand.Rand, s api.ShoalSea, l []api.ShoalReport) {
		wrong := r.IntN(4)
		met := make([][]int, s.Hours)
		for _, swum := range tracks(s) {
			if falseOf(s, l, swum) > wrong {
				continue
			}
			for hour, cell := range swum {
				if !slices.Contains(met[hour], cell) {
					met[hour] = append(met[hour], cell)
				}
			}
		}
		for hour := range s.Hours {
			cells := can(s, l, wrong, hour)
			if !isPart(met[hour], cells) || !isPart(cells, met[hour]) {
				t.Errorf("%v, %v, %d: in hour %d it can be in %v, and is in %v", s, l, wrong, hour, cells, met[hour])
			}
		}
	})
}

func TestMoreIsKnown(t *testing.T) { // P1.9
	each(300, func(r *rand.Rand, s api.ShoalSea, l []api.ShoalReport) {
		wrong, hour := between(r, 0, 3), r.IntN(s.Hours)
		cells := can(s, l, wrong, hour)
		more := append(slices.Clone(l), anyReports(r, s, 2)...)
		if known := can(s, more, wrong, hour); !isPart(known, cells) {
			t.Errorf("%v, %v: %v, and with %v %v", s, l, cells, more, known)
		}
		if known := can(s, l, wrong+1, hour); !isPart(cells, known) {
			t.Errorf("%v, %v: %v, and with one more that is false %v", s, l, cells, known)
		}
		if s.Speed > 0 {
			slow := s
			slow.Speed--
			if known := can(slow, l, wrong, hour); !isPart(known, cells) {
				t.Errorf("%v, %v: %v, and slower %v", s, l, cells, known)
			}
		}
	})
}

func TestFalseReportsAreNamed(t *testing.T) { // P1.10
	each(150, func(_ *rand.Rand, s api.ShoalSea, l []api.ShoalReport) {
		n, _, e := shoal.Least(s, l)
		liars, _ := shoal.Liars(s, l)
		for _, swum := range tracks(s) {
			untrue, is, _ := shoal.IsTrack(s, l, swum)
			if e != api.OK || !is || untrue < n {
				t.Fatalf("%v, %v: of %v %d are false, not %d", s, l, swum, untrue, n)
			}
			if untrue > n {
				continue
			}
			for _, i := range liars {
				if !isFalse(s, l[i], swum) {
					t.Errorf("%v, %v: %d is not false of %v", s, l, i, swum)
				}
			}
		}
	})
}

func TestCastsFindTheShoal(t *testing.T) { // P1.11
	each(150, func(r *rand.Rand, s api.ShoalSea, l []api.ShoalReport) {
		wrong, hour, casts := between(r, 0, 4), r.IntN(s.Hours), anyCasts(r, s)
		cells := can(s, l, wrong, hour)
		which, worst, e := shoal.Next(s, l, wrong, hour, casts)
		if e != api.OK {
			return
		}
		chosen, f := shoal.Sure(s, l, wrong, hour, casts)
		for _, swum := range tracks(s) {
			if falseOf(s, l, swum) > wrong {
				continue
			}
			shows := covered(s, casts[which], swum[hour:hour+1]) == 1
			left := slices.DeleteFunc(slices.Clone(cells), func(cell int) bool {
				return covered(s, casts[which], []int{cell}) == 1 != shows
			})
			if len(left) > worst || !slices.Contains(left, swum[hour]) {
				t.Errorf("%v, %v: %v leaves %v of %v, with %v", s, l, casts[which], left, worst, swum)
			}
			if f == api.OK && !slices.ContainsFunc(chosen, func(i int) bool { return covered(s, casts[i], swum[hour:hour+1]) == 1 }) {
				t.Errorf("%v, %v: %v of %v misses %v", s, l, chosen, casts, swum)
			}
		}
		if few := sureOf(s, casts, cells); len(few) != len(chosen) {
			t.Errorf("%v, %v: %v of %v, but %v do", s, l, chosen, casts, few)
		}
	})
}

func TestMirror(t *testing.T) { // P1.12
	each(300, func(r *rand.Rand, s api.ShoalSea, l []api.ShoalReport) {
		mirrored := func(cell int) int { return cell/s.Wide*s.Wide + s.Wide - 1 - cell%s.Wide }
		m, seen := s, slices.Clone(l)
		m.Land, m.Drift = slices.Clone(s.Land), slices.Clone(s.Drift)
		for i, cell := range m.Land {
			m.Land[i] = mirrored(cell)
		}
		slices.Sort(m.Land)
		for i := range m.Drift {
			m.Drift[i].East *= -1
		}
		for i := range seen {
			seen[i].Cell = mirrored(seen[i].Cell)
		}
		n, _, e := shoal.Least(s, l)
		if k, _, f := shoal.Least(m, seen); k != n || f != e {
			t.Errorf("%v, %v: %d, %d; in a mirror %d, %d", s, l, n, e, k, f)
		}
		for hour := range s.Hours {
			wrong := r.IntN(4)
			want := can(s, l, wrong, hour)
			for i, cell := range want {
				want[i] = mirrored(cell)
			}
			slices.Sort(want)
			if cells := can(m, seen, wrong, hour); !slices.Equal(cells, want) {
				t.Errorf("%v, %v: in a mirror %v, not %v", s, l, cells, want)
			}
		}
	})
}
