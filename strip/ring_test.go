package strip_test

import (
	"fmt"
	"sort"
	"testing"

	"alidade/api"
	"alidade/ellip"
	"alidade/info"
)

// checkBounds holds Ring against a strip with these bounds.
func checkBounds(t *testing.T, m measured, lo, hi int64) {
	t.Helper()
	h := at(m.e.C.X-m.n.C.X, m.e.C.Y-m.n.C.Y)
	checkRinged(t, m.ring(), ringed{api.Strip{O: m.n.C, H: h, Lo: lo, Hi: hi}, api.OK}, m)
}

func TestP8_1_RingOfExamples(t *testing.T) {
	for _, x := range []struct {
		m      measured
		lo, hi int64
	}{
		{measured{around(100, 0, sym(2500, 0, 2500)), around(0, 0, sym(1, 0, 1)), 90, 92}, 7241, 9400},
		{measured{around(30, 40, sym(400, 0, 400)), around(0, 0, sym(4, 0, 9)), 45, 47}, 1789, 2550},
		{measured{around(30, 40, sym(400, 0, 400)), around(0, 0, sym(4, 0, 9)), 45, 145}, 1789, 3500},
		{measured{around(3, 4, sym(40000, 0, 40000)), around(0, 0, sym(4, 0, 9)), 5, 7}, -975, 55},
		{measured{around(3, 4, sym(40000, 0, 40000)), around(0, 0, sym(4, 0, 9)), 0, 700}, -975, 1025},
		// The root is the lower bound, rounded down.
		{measured{around(-1, 8, sym(1, 0, 1)), around(3, -6, sym(2, 0, 3)), 17, 18}, 203, 227},
		{measured{around(-20, -15, sym(115, 95, 79)), around(4, -6, sym(5, -3, 8)), 41, 57}, 941, 995},
		{measured{around(0, 2, sym(4, 2, 2)), around(4, 2, sym(1, 0, 1)), 8, 10}, 23, 24},
		{measured{around(-2, 3, sym(7, 17, 44)), around(-7, -1, sym(1, 0, 3)), 8, 8}, 30, 65},
		// It is less than h - w by 1, as great, and greater by 1.
		{measured{around(-10, -8, sym(1, -2, 6)), around(6, -9, sym(1, 1, 2)), 17, 23}, 238, 276},
		{measured{around(2, -2, sym(3, -2, 3)), around(-3, -3, sym(9, 0, 6)), 8, 9}, 18, 34},
		{measured{around(5, 7, sym(5, 0, 1)), around(0, -4, sym(5, 3, 3)), 14, 17}, 130, 162},
		{measured{around(-5, 1, sym(10, 8, 7)), around(-5, -9, sym(2, 1, 2)), 10, 14}, 73, 127},
		{measured{around(4, 5, sym(1, 0, 1)), around(-5, 9, sym(1, 0, 1)), 11, 13}, 88, 107},
		{measured{around(-3, -5, sym(6, 0, 12)), around(-9, 5, sym(1, 0, 1)), 11, 11}, 99, 152},
		// The root is the upper bound, rounded up.
		{measured{around(-1, -3, sym(11, 20, 38)), around(-6, 4, sym(1, 0, 1)), 0, 7}, 46, 78},
		{measured{around(3, -1, sym(2795, -862, 266)), around(-1, 9, sym(1, 0, 1)), 1, 3}, -259, 54},
		{measured{around(-23, 45, sym(2223, 980, 1166)), around(0, -5, sym(8, 7, 7)), 52, 52}, 1673, 3083},
		// It is less than h + w by 1, as great, and greater by 1.
		{measured{around(0, -1, sym(39, 36, 34)), around(6, -7, sym(3, -2, 2)), 0, 6}, 66, 77},
		{measured{around(5, -4, sym(1, 6, 38)), around(6, -6, sym(1, 0, 1)), 4, 5}, -7, 16},
		{measured{around(2, -3, sym(4, 0, 9)), around(-5, -3, sym(3, 1, 1)), 0, 7}, 35, 63},
		{measured{around(0, -3, sym(36, -17, 25)), around(-2, 0, sym(8, -4, 3)), 0, 6}, -11, 37},
		{measured{around(-3, -1, sym(3, 0, 1)), around(-5, -4, sym(10, 9, 9)), 0, 0}, 8, 18},
		{measured{around(4, 1, sym(21, 0, 13)), around(1, 2, sym(6, 0, 6)), 3, 4}, -5, 25},
		// The radius of n is greater than lo, as great, and less by 1.
		{measured{around(-6, 0, sym(29, 26, 24)), around(-1, 1, sym(2, -1, 2)), 1, 1}, -6, 16},
		{measured{around(0, 3, sym(7, 0, 7)), around(-6, -1, sym(5, 0, 9)), 1, 3}, 32, 51},
		{measured{around(1, 0, sym(4, 1, 1)), around(-6, -3, sym(1, 0, 1)), 2, 4}, 42, 46},
		{measured{around(1, 1, sym(116, 0, 186)), around(-6, 2, sym(3, 2, 2)), 3, 3}, -27, 43},
		{measured{around(0, 1, sym(3, -4, 6)), around(2, -2, sym(1, 0, 1)), 3, 3}, 3, 19},
		{measured{around(1, 0, sym(21, 4, 1)), around(6, 1, sym(2, 0, 3)), 4, 4}, 4, 36},
	} {
		checkBounds(t, x.m, x.lo, x.hi)
	}
}

// TestP8_1_RingOnBothSides: h - w is 1, 0, -1 or less, and from 0 on, e may lie on both
// sides of n, so that a root that is greater does not count.
func TestP8_1_RingOnBothSides(t *testing.T) {
	for _, x := range []struct {
		m      measured
		least  int64 // h - w
		lo, hi int64
	}{
		{measured{around(-3, 1, sym(33, 0, 23)), around(-8, 4, sym(1, 0, 1)), 9, 11}, 1, 27, 67},
		{measured{around(1, -1, sym(26, -21, 18)), around(7, -4, sym(9, -4, 2)), 9, 11}, 1, 31, 89},
		{measured{around(-1, -3, sym(13, 14, 16)), around(-1, -7, sym(1, 0, 1)), 9, 10}, 0, 0, 32},
		{measured{around(2, -1, sym(3, 0, 1)), around(2, -2, sym(1, 0, 1)), 11, 13}, 0, 0, 2},
		{measured{around(-6, -7, sym(3, -3, 4)), around(-8, -7, sym(4, 0, 4)), 11, 17}, 0, 0, 8},
		{measured{around(-3, -3, sym(6, 6, 27)), around(-3, -8, sym(3, 0, 1)), 25, 27}, -1, -1, 51},
		{measured{around(1, 2, sym(31, 19, 34)), around(6, 7, sym(2, 1, 1)), 10, 10}, -1, -1, 85},
		{measured{around(-1, -3, sym(1, 0, 36)), around(-1, -2, sym(4, -1, 2)), 8, 8}, -5, -5, 7},
		{measured{around(-1, 7, sym(112, -8, 70)), around(-3, 0, sym(1, 0, 1)), 14, 15}, -8, -8, 114},
		{measured{around(1, -14, sym(2394, 1652, 1140)), around(5, 6, sym(1, 0, 1)), 52, 52}, -455, -455, 1102},
	} {
		checkBounds(t, x.m, x.lo, x.hi)
		b := boundsOf(x.m)
		if b.least.Int64() != x.least || b.inside.Sign() <= 0 || rootDown(b.inside).Cmp(b.least) <= 0 {
			t.Errorf("h - w of %v is %v, want %d, and the root greater", x.m, b.least, x.least)
		}
	}
}

// TestP8_1_RingAcrossTheCircle: h * m^2 - k^2 is 1, 0, -1 or less: e reaches across the
// whole inner circle.
func TestP8_1_RingAcrossTheCircle(t *testing.T) {
	for _, x := range []struct {
		m      measured
		inside int64 // h * m^2 - k^2
		lo, hi int64
	}{
		{measured{around(-3, 0, sym(1, -1, 4)), around(-4, 5, sym(10, -1, 1)), 5, 5}, 1, 15, 37},
		{measured{around(0, 1, sym(1, 1, 2)), around(1, 3, sym(1, 0, 1)), 3, 3}, 1, 1, 9},
		{measured{around(0, 1, sym(1, 0, 2)), around(0, -1, sym(1, 0, 1)), 3, 5}, 0, 1, 7},
		{measured{around(-2, -3, sym(1, 0, 1)), around(1, 1, sym(2, 2, 3)), 4, 6}, 0, 20, 30},
		{measured{around(0, 3, sym(2, 2, 3)), around(-4, 0, sym(3, 0, 2)), 4, 6}, 0, 14, 36},
		{measured{around(2, 4, sym(1, -1, 3)), around(-2, 2, sym(3, -2, 2)), 5, 5}, -1, 16, 24},
		{measured{around(-3, 0, sym(4, 0, 1)), around(-5, 4, sym(3, 1, 1)), 4, 4}, -1, 14, 26},
		{measured{around(2, -3, sym(8, 0, 11)), around(0, -9, sym(2, 1, 1)), 5, 7}, -1, 19, 57},
		{measured{around(-1, 1, sym(22, 0, 31)), around(-7, 8, sym(3, 0, 1)), 4, 4}, -1869, 36, 56},
		{measured{around(7, -4, sym(75, 112, 170)), around(2, 3, sym(1, -1, 4)), 8, 8}, -14026, 25, 95},
	} {
		checkBounds(t, x.m, x.lo, x.hi)
		if b := boundsOf(x.m); b.inside.Int64() != x.inside {
			t.Errorf("h * m^2 - k^2 of %v is %v, want %d", x.m, b.inside, x.inside)
		}
	}
}

// TestP8_1_RingThatTouches: Hi is greater than Lo by 1; as great, so that it is increased;
// less by 1 or 2, so that nothing is left.
func TestP8_1_RingThatTouches(t *testing.T) {
	for _, x := range []struct {
		m      measured
		by     int64
		lo, hi int64
	}{
		// e lies outside of the outer circle.
		{measured{around(1, -1, sym(4, 0, 1)), around(2, -8, sym(3, -2, 3)), 3, 3}, 1, 42, 43},
		{measured{around(0, 1, sym(2, -1, 1)), around(3, 8, sym(1, 0, 1)), 0, 5}, 1, 53, 54},
		{measured{around(100, 0, sym(2500, 0, 2500)), around(0, 0, sym(1, 0, 1)), 0, 48}, 0, 5000, 5001},
		{measured{around(3, -1, sym(1, 0, 2)), around(0, 9, sym(1, 0, 1)), 7, 7}, 0, 94, 95},
		{measured{around(-1, 2, sym(1, -1, 4)), around(-2, -3, sym(2, 0, 2)), 0, 1}, 0, 16, 17},
		{measured{around(2, -1, sym(4, 0, 1)), around(-5, 3, sym(1, 0, 1)), 1, 4}, -1, 0, 0},
		{measured{around(-5, 10, sym(3, 5, 12)), around(-9, 2, sym(3, 0, 3)), 0, 2}, -1, 0, 0},
		{measured{around(2, -1, sym(10, 18, 34)), around(-4, 9, sym(2, 0, 2)), 6, 6}, -2, 0, 0},
		// e lies inside of the inner circle.
		{measured{around(6, 1, sym(5, -10, 24)), around(-4, 3, sym(3, -1, 1)), 16, 16}, 1, 135, 136},
		{measured{around(16, -7, sym(39, -1, 30)), around(4, 7, sym(1, 0, 1)), 27, 27}, 1, 448, 449},
		{measured{around(1, 3, sym(37, -1, 12)), around(-5, 5, sym(6, -1, 5)), 17, 19}, 0, 78, 79},
		{measured{around(-2, 2, sym(4, 0, 1)), around(-1, 5, sym(1, 0, 1)), 7, 10}, 0, 14, 15},
		{measured{around(4, -5, sym(14, -19, 28)), around(8, -2, sym(5, 3, 3)), 12, 19}, 0, 30, 31},
		{measured{around(-2, -1, sym(4, 4, 5)), around(-7, 3, sym(1, 0, 1)), 10, 10}, -1, 0, 0},
		{measured{around(4, 2, sym(1, 0, 3)), around(3, -6, sym(8, 0, 3)), 14, 14}, -1, 0, 0},
		{measured{around(3, 5, sym(1, 0, 4)), around(1, 6, sym(3, -2, 3)), 8, 8}, -2, 0, 0},
	} {
		if x.by < 0 {
			checkRinged(t, x.m.ring(), outsideRing, x.m)
		} else {
			checkBounds(t, x.m, x.lo, x.hi)
		}
		if b := boundsOf(x.m); b.hi()-b.lo() != x.by {
			t.Errorf("Hi - Lo of %v was %d, want %d", x.m, b.hi()-b.lo(), x.by)
		}
	}
}

// TestP8_1_RingOfExamplesAtTheLimits: of coordinates, of matrices and of distances.
func TestP8_1_RingOfExamplesAtTheLimits(t *testing.T) {
	const most = mostVar
	for _, x := range []struct {
		m      measured
		lo, hi int64
	}{
		{measured{around(mostPos, mostPos, sym(most, most-1, most)), around(-mostPos, -mostPos, sym(most, most-1, most)), mostRange, mostRange}, 0, 190495714001600},
		{measured{around(mostPos, mostPos, sym(most, 1-most, most)), around(-mostPos, -mostPos, sym(most, 1-most, most)), 0, mostRange}, 140737476492044, 140737500218612},
		{measured{around(mostPos, -mostPos, sym(most, 1-most, most)), around(-mostPos, mostPos, sym(1, 0, 1)), mostRange, mostRange}, 0, 49758239918175},
		{measured{around(mostPos, -mostPos, sym(most, 0, most)), around(-mostPos, mostPos, sym(most, 0, most)), 0, 0}, 41221055972112, 140737497809992},
		{measured{around(mostPos, mostPos, sym(most, 0, 1)), around(-mostPos, -mostPos, sym(1, 0, most)), mostRange, mostRange}, 70368744177663, 149274660438106},
		{measured{around(mostPos, 0, sym(20000000000000, 0, 1)), around(0, 0, sym(1, 0, 1)), mostRange, mostRange}, -1165311680183, 17592194433024},
		{measured{around(mostPos, 0, sym(most, 0, 1)), around(0, 0, sym(1, 0, 1)), mostRange, mostRange}, -17592186044416, 17592194433024},
		{measured{around(mostPos, 0, sym(most, 0, 1)), around(1, 0, sym(1, 0, 1)), mostRange, mostRange}, -17592186044415, 17592190238718},
		{measured{around(mostPos, 0, sym(1000000000000, 0, 1000000000000)), around(0, 0, sym(5, 0, 4)), 4194303, mostRange}, 17084853920399, 17592198627328},
		{measured{around(0, -mostPos, sym(1000000000000, 500000000000, 1000000000000)), around(0, 0, sym(5, 0, 4)), 4193304, 4193305}, 17080539359176, 17588008517632},
		{measured{around(mostPos, mostPos, sym(10000000000000, 5000000000000, 10000000000000)), around(1000000, 2000000, sym(100000000000, 0, 10000000000)), 4189000, mostRange}, 11973678150300, 17539829113361},
	} {
		checkBounds(t, x.m, x.lo, x.hi)
	}
	for _, m := range []measured{
		{around(mostPos, mostPos, sym(1, 0, 1)), around(-mostPos, -mostPos, sym(1, 0, 1)), 0, mostRange},
		{around(mostPos, mostPos, sym(1, 0, 1)), around(-mostPos, mostPos, sym(1, 0, 1)), mostRange, mostRange},
		{around(mostPos, -mostPos, sym(most, most-1, most)), around(-mostPos, mostPos, sym(1, 0, 1)), 0, 0},
		{around(0, mostPos, sym(1000000000000, 0, 1000000000000)), around(0, 0, sym(5, 0, 4)), 0, 3000000},
	} {
		checkRinged(t, m.ring(), outsideRing, m)
	}
}

// TestP8_1_RingAtTheLimits: it is a valid strip wherever it is one.
func TestP8_1_RingAtTheLimits(t *testing.T) {
	for _, e := range limitEllipses() {
		for _, n := range limitEllipses() {
			for _, d := range limitDistances() {
				if got := checkRing(t, measured{e, n, d.lo, d.hi}); got.errno == api.OK && !info.MayStrip(got.s) {
					t.Errorf("Ring(%v, %v, %v) = %v is not valid", e, n, d, got.s)
				}
			}
		}
	}
}

func TestP8_1_RingOfSmallEllipses(t *testing.T) {
	matrices := []api.Sym{sym(1, 0, 1), sym(2, 1, 1), sym(1, -1, 3), sym(9, 0, 1), sym(4, -6, 10), sym(5, 7, 11), sym(16, 0, 16), sym(40, 20, 30)}
	for x := int64(-4); x <= 4; x++ {
		for y := int64(-4); y <= 4; y++ {
			for k, p := range matrices {
				e, n := around(x-3, y+2, p), around(-3, 2, matrices[k*5%7])
				for lo := range int64(13) {
					for _, hi := range []int64{lo, lo + 1, lo + 3, lo + 30} {
						checkRing(t, measured{e, n, lo, hi})
					}
				}
			}
		}
	}
}

// kind tells what decides about a strip.
func kind(m measured) string {
	b := boundsOf(m)
	isSide, isCircle := b.least.Sign() > 0, b.inside.Sign() > 0
	lo := fmt.Sprintf("lo %t %t %t", isSide, isCircle, isSide && isCircle && b.lo() > b.least.Int64())
	return lo + fmt.Sprintf(", hi %t", b.hi() < b.most.Int64())
}

func TestP8_1_RingOfAllLengths(t *testing.T) {
	from := source(1)
	errors, kinds := map[api.Errno]int{}, map[string]int{}
	for k := range 40000 {
		far := int64(8) << (k % 18)
		m := from.measured(far, 1+far*far<<4>>(k%10))
		got := checkRing(t, m)
		errors[got.errno]++
		if got.errno == api.OK {
			kinds[kind(m)]++
		}
	}
	if errors[api.OK] < 10000 || errors[api.ErrEmpty] < 3000 || errors[api.ErrNone] < 10 {
		t.Errorf("the results are %v", errors)
	}
	for _, lo := range []string{"lo false false false", "lo false true false", "lo true false false", "lo true true false", "lo true true true"} {
		for _, hi := range []string{", hi false", ", hi true"} {
			if kinds[lo+hi] < 50 {
				t.Errorf("only %d strips are of the kind %s", kinds[lo+hi], lo+hi)
			}
		}
	}
}

// TestP8_1_RingOnBothSidesOfTouch: the next distance leaves nothing.
func TestP8_1_RingOnBothSidesOfTouch(t *testing.T) {
	from := source(2)
	for k := range 1500 {
		far := int64(8) << (k % 16)
		m := from.measured(far, 1+far*far>>6)
		nearest := sort.Search(mostRange, func(hi int) bool { return wantRing(measured{m.e, m.n, 0, int64(hi)}).errno != api.ErrEmpty })
		farthest := sort.Search(mostRange, func(lo int) bool {
			return wantRing(measured{m.e, m.n, int64(lo), mostRange}).errno == api.ErrEmpty
		})
		for d := int64(-2); d <= 2; d++ {
			hi, lo := max(int64(nearest)+d, 0), max(int64(farthest)+d, 0)
			checkRing(t, measured{m.e, m.n, 0, hi})
			checkRing(t, measured{m.e, m.n, hi, hi})
			checkRing(t, measured{m.e, m.n, lo, mostRange})
			checkRing(t, measured{m.e, m.n, lo, lo})
		}
	}
}

// TestP8_1_RingAroundTheSameCentre: there is no direction, at whatever distance.
func TestP8_1_RingAroundTheSameCentre(t *testing.T) {
	for _, e := range limitEllipses() {
		n := around(e.C.X, e.C.Y, sym(9, 2, 4))
		for _, d := range limitDistances() {
			checkRinged(t, measured{e, n, d.lo, d.hi}.ring(), aroundIt, e, n, d)
			checkRinged(t, measured{n, e, d.lo, d.hi}.ring(), aroundIt, n, e, d)
		}
	}
	for _, c := range []api.Point{at(1, 0), at(0, 1), at(-1, 0), at(0, -1)} { // one coordinate is another one
		m := measured{api.Ellipse{C: c, P: sym(9, 2, 4)}, around(0, 0, sym(1, 0, 1)), 0, 5}
		if got := checkRing(t, m); got.errno != api.OK {
			t.Errorf("Ring(%v) = %v", m, got)
		}
	}
}

// TestP8_1_RingOfTheLimitsOfDistances: 0 to 0, MaxRange to MaxRange, and one beyond.
func TestP8_1_RingOfTheLimitsOfDistances(t *testing.T) {
	e, n := around(5, 0, sym(16, 0, 16)), around(0, 0, sym(1, 0, 1))
	checkBounds(t, measured{e, n, 0, 0}, 5, 10)
	checkBounds(t, measured{e, n, 0, mostRange}, 5, 45)
	checkRinged(t, measured{e, n, -1, 0}.ring(), noRing)
	checkRinged(t, measured{e, n, 0, mostRange + 1}.ring(), noRing)
	checkRinged(t, measured{e, n, 1, 0}.ring(), noRing)
	far := around(mostPos, 0, sym(16, 0, 16))
	checkBounds(t, measured{far, n, mostRange, mostRange}, 17592177655799, 17592194433024)
	checkRinged(t, measured{far, n, mostRange + 1, mostRange + 1}.ring(), noRing)
	checkRinged(t, measured{far, n, mostRange, mostRange - 1}.ring(), noRing)
}

func TestP8_1_RingOfInvalidArguments(t *testing.T) {
	checkInvalid(t, "Ring", func(m measured) api.Errno {
		got := m.ring()
		if got.errno != api.OK {
			checkRinged(t, got, ringed{errno: got.errno}, m)
		}
		return got.errno
	})
}

// checkInvalid holds that a call refuses each invalid argument, alone and with others, and
// also where the ellipses have the same centre or do not meet. What is valid it accepts.
func checkInvalid(t *testing.T, call string, errno func(m measured) api.Errno) {
	t.Helper()
	check := func(e, n api.Ellipse, d distance) {
		t.Helper()
		if got := errno(measured{e, n, d.lo, d.hi}); got != api.ErrArg {
			t.Errorf("%s(%v, %v, %v) returns %v, want ErrArg", call, e, n, d, got)
		}
	}
	valid := []api.Ellipse{around(0, 0, sym(9, 2, 4)), around(10, 7, sym(90, -8, 40)), around(mostPos, mostPos, sym(1, 0, 1))}
	near, far := distance{3, 11}, distance{0, mostRange}
	for _, invalid := range invalidEllipses() {
		for _, e := range valid {
			check(e, invalid, near)
			check(e, invalid, far)
			check(invalid, e, near)
			check(invalid, e, far)
		}
		for _, other := range invalidEllipses() {
			check(invalid, other, near)
			check(invalid, other, far)
		}
		for _, d := range invalidDistances() {
			check(valid[0], invalid, d)
			check(invalid, valid[0], d)
			check(invalid, invalid, d)
		}
	}
	for _, d := range invalidDistances() {
		for _, e := range valid {
			for _, n := range valid {
				check(e, n, d)
			}
		}
	}
	if got := errno(measured{valid[0], valid[1], near.lo, near.hi}); got != api.OK || !ellip.May(valid[2]) {
		t.Errorf("%s of what is valid returns %v", call, got)
	}
}
