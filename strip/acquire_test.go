package strip_test

import (
	"testing"

	"alidade/api"
	"alidade/strip"
)

func acquired(n api.Ellipse, hi int64) made { return madeOf(strip.Acquire(n, hi)) }

func TestP8_3_AcquireOfExamples(t *testing.T) {
	for _, x := range []struct {
		n    api.Ellipse
		hi   int64
		want made
	}{
		{around(0, 0, sym(1, 0, 1)), 0, okay(0, 0, sym(4, 0, 4))},
		{around(0, 0, sym(1, 0, 1)), 1, okay(0, 0, sym(9, 0, 9))},
		{around(0, 0, sym(2, 1, 2)), 0, okay(0, 0, sym(4, 0, 4))},
		{around(0, 0, sym(2, 1, 3)), 0, okay(0, 0, sym(9, 0, 9))},
		{around(5, 6, sym(9, 0, 16)), 0, okay(5, 6, sym(25, 0, 25))},
		{around(5, 6, sym(9, 0, 16)), 10, okay(5, 6, sym(225, 0, 225))},
		{around(5, 6, sym(9, 0, 17)), 10, okay(5, 6, sym(256, 0, 256))},
		{around(-5, 600, sym(9, -11, 16)), 1000000, okay(-5, 600, sym(1000010000025, 0, 1000010000025))},
		{around(mostPos, -mostPos, sym(1000000, 1, 7000000)), 12, okay(mostPos, -mostPos, sym(8071281, 0, 8071281))},
	} {
		checkMade(t, "Acquire", acquired(x.n, x.hi), x.want, x.n, x.hi)
	}
}

// wantAcquired is what the document says of a valid n and hi.
func wantAcquired(n api.Ellipse, hi int64) made {
	r := hi + radius(n)
	if r > mostRange {
		return over
	}
	return okay(n.C.X, n.C.Y, sym(r*r, 0, r*r))
}

func TestP8_3_AcquireOfAllLengths(t *testing.T) {
	from := source(6)
	count := map[api.Errno]int{}
	for range 20000 {
		n := around(from.evenly(mostPos), from.to(mostPos), from.matrix(mostVar))
		hi := max(from.to(mostRange), 0)
		checkMade(t, "Acquire", acquired(n, hi), wantAcquired(n, hi), n, hi)
		count[wantAcquired(n, hi).errno]++
	}
	if count[api.OK] < 10000 || count[api.ErrOver] < 500 {
		t.Errorf("the results are %v", count)
	}
}

// TestP8_3_AcquireOnBothSidesOfMaxRange: an R of exactly MaxRange, and one above it.
func TestP8_3_AcquireOnBothSidesOfMaxRange(t *testing.T) {
	const most = mostRange * mostRange
	for _, x := range []struct {
		p      api.Sym
		radius int64
	}{
		{sym(1, 0, 1), 2}, {sym(9, 0, 16), 5}, {sym(9, -4, 17), 6}, {sym(1<<40, 1<<39, 1<<40), 1482911},
		{sym(most-1, 0, 1), mostRange}, {sym(most/2, most/2-1, most/2), mostRange}, {sym(most-9, -100, 1), mostRange},
	} {
		n := around(-7, mostPos, x.p)
		checkMade(t, "Acquire", acquired(n, mostRange-x.radius), okay(-7, mostPos, sym(most, 0, most)), n)
		checkMade(t, "Acquire", acquired(n, mostRange-x.radius+1), over, n)
		checkMade(t, "Acquire", acquired(n, mostRange), over, n)
		checkMade(t, "Acquire", acquired(n, mostRange+1), refused, n)
	}
	for _, p := range []api.Sym{sym(most, 0, 1), sym(most/2, 0, most/2+1), sym(mostVar, 0, mostVar), sym(mostVar, 1-mostVar, mostVar), sym(1, 0, mostVar)} {
		for _, hi := range []int64{0, 1, mostRange} {
			checkMade(t, "Acquire", acquired(around(1, 2, p), hi), over, p, hi)
		}
	}
}

func TestP8_3_AcquireOfInvalidArguments(t *testing.T) {
	valid := []api.Ellipse{around(0, 0, sym(9, 2, 4)), around(mostPos, -mostPos, sym(mostVar, 0, mostVar))}
	for _, d := range invalidDistances() {
		for _, hi := range []int64{d.lo, d.hi} {
			if hi >= 0 && hi <= mostRange {
				continue
			}
			for _, n := range append(invalidEllipses(), valid...) {
				checkMade(t, "Acquire", acquired(n, hi), refused, n, hi)
			}
		}
	}
	for _, n := range invalidEllipses() {
		for _, hi := range []int64{0, 5, mostRange - 2, mostRange} {
			checkMade(t, "Acquire", acquired(n, hi), refused, n, hi)
		}
	}
	checkMade(t, "Acquire", acquired(valid[0], 0), okay(0, 0, sym(16, 0, 16)))
}
