package strip_test

import (
	"slices"
	"testing"

	"alidade/api"
	"alidade/ellip"
)

// fine is how many parts of 1 the coordinates of a point of n have here: unlike one of e,
// it need not be an integer point.
const fine = 8

// checkKept holds that these points, each of which is at such a distance from a point of
// n, are in all that is made of it, and that Update makes no trace greater. It returns
// what Update makes.
func checkKept(t *testing.T, m measured, points ...api.Point) api.Ellipse {
	t.Helper()
	ring, got, ball := m.ring(), m.update(), acquired(m.n, m.hi)
	if (m.e.C == m.n.C) != (ring == aroundIt) || trace(got.e) > trace(m.e) {
		t.Errorf("of %v, Ring is %v, and Update is %v", m, ring, got)
	}
	for _, x := range points {
		if ring != aroundIt && (ring.errno != api.OK || !stripContains(ring.s, x)) {
			t.Errorf("Ring(%v) = %v, want %v in it", m, ring, x)
		}
		if got.errno != api.OK || !ellip.In(got.e, x) {
			t.Errorf("Update(%v) = %v, want %v in it", m, got, x)
		}
		if ball != over && (ball.errno != api.OK || !ellip.In(ball.e, x)) {
			t.Errorf("Acquire(%v, %d) = %v, want %v in it", m.n, m.hi, ball, x)
		}
	}
	return got.e
}

// pointsOf are the integer points of a small ellipse.
func pointsOf(e api.Ellipse) []api.Point {
	var points []api.Point
	width, height := ellip.Hull(e)
	for x := -width; x <= width; x++ {
		for y := -height; y <= height; y++ {
			if holds(e.P, x, y) {
				points = append(points, at(e.C.X+x, e.C.Y+y))
			}
		}
	}
	return points
}

// finePointsOf are points of a small ellipse, with coordinates in parts of 1.
func finePointsOf(e api.Ellipse) []api.Point {
	const square = fine * fine
	return pointsOf(around(e.C.X*fine, e.C.Y*fine, sym(e.P.A*square, e.P.B*square, e.P.D*square)))
}

// between returns the distance, as integers, between x and a point in parts of 1.
func between(x, y api.Point) distance {
	dx, dy := of(x.X*fine-y.X), of(x.Y*fine-y.Y)
	square := plus(times(dx, dx), times(dy, dy))
	d := distance{lo: rootDown(square).Int64() / fine}
	for d.hi = d.lo; times(of(fine*d.hi), of(fine*d.hi)).Cmp(square) < 0; d.hi++ {
	}
	return d
}

// reachOf returns how far x is from the farthest of these points, rounded down, and how
// far from the nearest one, rounded up. An ellipse has a point at each distance between.
func reachOf(x api.Point, points []api.Point) (farthest, nearest int64) {
	nearest = mostRange
	for _, y := range points {
		d := between(x, y)
		farthest, nearest = max(farthest, d.lo), min(nearest, d.hi)
	}
	return farthest, nearest
}

// TestP8_4_AllPointsOfSmallEllipses: for each distance from 0 to one that is too great,
// all integer points that are at this distance are kept.
func TestP8_4_AllPointsOfSmallEllipses(t *testing.T) {
	from := source(7)
	kept := 0
	for k := range 120 {
		e := around(from.evenly(9), from.evenly(9), from.matrix(4<<(k%6)))
		n := around(from.evenly(3), from.evenly(3), from.matrix(1<<(k%5)))
		farthest, nearest, there := map[api.Point]int64{}, map[api.Point]int64{}, finePointsOf(n)
		for _, x := range pointsOf(e) {
			farthest[x], nearest[x] = reachOf(x, there)
		}
		for lo := range int64(24) {
			for _, hi := range []int64{lo, lo + 1, lo + int64(k%9)} {
				points := slices.DeleteFunc(pointsOf(e), func(x api.Point) bool { return farthest[x] < lo || nearest[x] > hi })
				if len(points) > 0 {
					checkKept(t, measured{e, n, lo, hi}, points...)
				}
				kept += len(points)
			}
		}
	}
	if kept < 10000 {
		t.Errorf("only %d points were at such a distance", kept)
	}
}

// TestP8_4_PointsOfGreatEllipses: x and the point of n are often at the border, and the
// distance is as exact as integers are.
func TestP8_4_PointsOfGreatEllipses(t *testing.T) {
	from := source(8)
	for k := range 2000 {
		m, x := from.near(int64(8) << (k % 18))
		checkKept(t, m, x)
		checkKept(t, measured{m.e, m.n, m.lo, min(m.hi+max(from.to(m.hi), 0), mostRange)}, x)
		checkKept(t, measured{m.e, m.n, max(m.lo-max(from.to(m.lo), 0), 0), m.hi}, x)
	}
}

// near returns a distance from a point of n to a point x of e, which it returns as well.
func (s *source) near(far int64) (measured, api.Point) {
	for {
		n := around(s.evenly(mostPos), s.evenly(mostPos), s.matrix(far*far))
		e := around(n.C.X+s.evenly(far), n.C.Y+s.to(far), s.matrix(far*far))
		u, v := s.inside(e.P), s.inside(n.P)
		x := at(e.C.X+u.X, e.C.Y+u.Y)
		d := between(x, at((n.C.X+v.X)*fine, (n.C.Y+v.Y)*fine))
		if m := (measured{e, n, d.lo, d.hi}); isValid(m) {
			return m, x
		}
	}
}

// TestP8_4_UpdateAgainAndAgain: x stays in, whatever it is measured from, and a distance
// that is measured again does no harm.
func TestP8_4_UpdateAgainAndAgain(t *testing.T) {
	from := source(9)
	for k := range 150 {
		far := int64(64) << (k % 14)
		m, x := from.near(far)
		first := trace(m.e)
		for range 12 {
			m.e = checkKept(t, m, x)
			m.e = checkKept(t, m, x)
			n := around(x.X+from.evenly(far), x.Y+from.evenly(far), from.matrix(1+far*far>>12))
			v := from.inside(n.P)
			d := between(x, at((n.C.X+v.X)*fine, (n.C.Y+v.Y)*fine))
			if next := (measured{m.e, n, d.lo, d.hi}); isValid(next) {
				m = next
			}
		}
		if first > 10000 && trace(m.e) > first/4 {
			t.Errorf("12 distances make a trace of %d only %d", first, trace(m.e))
		}
	}
}

// TestP8_4_ThePointOfTouch: the only one that is at such a distance.
func TestP8_4_ThePointOfTouch(t *testing.T) {
	one := around(0, 0, sym(1, 0, 1))
	for _, x := range []struct {
		m measured
		p api.Point
	}{
		{measured{around(9, 0, sym(25, 0, 25)), one, 0, 3}, at(4, 0)},
		{measured{around(9, 0, sym(25, 0, 25)), one, 3, 3}, at(4, 0)},
		{measured{around(5, 0, sym(9, 0, 9)), one, 9, 12}, at(8, 0)},
		{measured{around(5, 0, sym(9, 0, 9)), one, 9, 9}, at(8, 0)},
		{measured{around(5, 0, sym(9, 0, 9)), one, 9, mostRange}, at(8, 0)},
		{measured{around(6, 8, sym(25, 0, 25)), around(-3, -4, sym(25, 0, 25)), 5, 5}, at(3, 4)},
		{measured{around(6, 8, sym(25, 0, 25)), around(-3, -4, sym(25, 0, 25)), 25, 25}, at(9, 12)},
		{measured{around(-900, 0, sym(160000, 0, 160000)), one, 0, 499}, at(-500, 0)},
		{measured{around(-900, 0, sym(160000, 0, 160000)), one, 1301, 1301}, at(-1300, 0)},
		{measured{around(0, 5, sym(1, 0, 1)), one, 7, 7}, at(0, 6)},
		{measured{around(0, 5, sym(1, 0, 1)), one, 3, 3}, at(0, 4)},
		{measured{around(mostPos-5, 0, sym(25, 0, 25)), one, mostRange, mostRange}, at(mostPos, 0)},
		{measured{around(7, 7, sym(25, 0, 25)), around(7, 7, sym(1, 0, 1)), 6, 6}, at(7, 2)},
		{measured{around(7, 7, sym(25, 0, 25)), around(7, 7, sym(49, 0, 49)), 0, 0}, at(12, 7)},
	} {
		checkKept(t, x.m, x.p)
	}
}

// TestP8_4_TheTraceIsNeverGreater, wherever the ellipse lies.
func TestP8_4_TheTraceIsNeverGreater(t *testing.T) {
	from := source(10)
	for k := range 2500 {
		far := int64(8) << (k % 18)
		m := from.measured(far, 1+far*far<<4>>(k%10))
		if got := m.update(); trace(got.e) > trace(m.e) || got.errno != api.OK && got.errno != api.ErrEmpty {
			t.Errorf("Update(%v) = %v, want no greater trace", m, got)
		}
	}
}
