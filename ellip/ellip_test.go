package ellip_test

import (
	"math"
	"math/big"
	"testing"

	"alidade/api"
	"alidade/ellip"
)

func TestP4_1_MayPoint(t *testing.T) {
	for _, p := range pointsOf(around0(api.MaxPos)) {
		checkBool(t, "MayPoint", ellip.MayPoint(p), mayPoint(p), p)
	}
}

func TestP4_1_May(t *testing.T) {
	for _, p := range matricesOf(around0(api.MaxVar, 1<<23, 1<<61)) {
		e := around(0, 0, p)
		checkBool(t, "May", ellip.May(e), mayBe(e), e)
	}
	for _, c := range pointsOf(around0(api.MaxPos)) {
		e := api.Ellipse{C: c, P: sym(4, 1, 4)}
		checkBool(t, "May", ellip.May(e), mayPoint(c), e)
	}
	for _, e := range validEllipses() {
		checkBool(t, "May", ellip.May(e), true, e)
	}
	for _, e := range invalidEllipses() {
		checkBool(t, "May", ellip.May(e), false, e)
	}
}

// TestP4_1_MayAtDeterminants: b * b, and the numbers beside it, are products of 1 and
// of a number in range.
func TestP4_1_MayAtDeterminants(t *testing.T) {
	for b := int64(-1 << 23); b <= 1<<23; b += 1 << 12 {
		for beside := int64(-2); beside <= 2; beside++ {
			for _, p := range []api.Sym{sym(1, b, b*b+beside), sym(b*b+beside, b, 1)} {
				valid := beside > 0 && b*b+beside <= api.MaxVar
				checkBool(t, "May", ellip.May(around(7, -7, p)), valid, p)
			}
		}
	}
	for _, x := range []struct {
		p     api.Sym
		valid bool
	}{
		{sym(4, 6, 9), false}, {sym(5, 7, 10), true}, {sym(5, -7, 10), true}, {sym(5, 8, 13), true}, {sym(5, 8, 12), false},
		{sym(api.MaxVar, api.MaxVar, api.MaxVar), false}, {sym(api.MaxVar, -api.MaxVar, api.MaxVar), false},
		{sym(api.MaxVar, api.MaxVar-1, api.MaxVar-1), true}, {sym(api.MaxVar, api.MaxVar-1, api.MaxVar-2), false},
		{sym(api.MaxVar-1, 1-api.MaxVar, api.MaxVar-1), false}, {sym(api.MaxVar-1, 2-api.MaxVar, api.MaxVar-1), true},
	} {
		checkBool(t, "May", ellip.May(around(0, 0, x.p)), x.valid, x.p)
	}
}

func TestP4_1_InOfSmallEllipses(t *testing.T) {
	points := pointsOf(numbersTo(8))
	for _, e := range smallEllipses() {
		for _, p := range points {
			checkBool(t, "In", ellip.In(e, p), contains(e, p), e, p)
		}
	}
}

func TestP4_1_InAtTheBorder(t *testing.T) {
	from := source(4)
	in, out := 0, 0
	for _, e := range validEllipses() {
		checkBool(t, "In", ellip.In(e, e.C), true, e, e.C)
		for range 20 {
			for _, p := range from.border(e) {
				want := contains(e, p)
				checkBool(t, "In", ellip.In(e, p), want, e, p)
				if want {
					in++
				} else {
					out++
				}
			}
		}
	}
	if in < 10000 || out < 10000 {
		t.Errorf("%d points are in, %d are not", in, out)
	}
}

// TestP4_1_InAtTheLimits: an ellipse may reach beyond the coordinates of valid points.
func TestP4_1_InAtTheLimits(t *testing.T) {
	const most, reach = api.MaxPos, 1 << 23
	e := around(most, -most, sym(api.MaxVar, 0, api.MaxVar))
	for _, x := range []struct {
		p    api.Point
		want bool
	}{
		{at(most, -most), true}, {at(most+reach, -most), true}, {at(most+reach+1, -most), false}, {at(most+reach, -most-1), false},
		{at(most-reach, -most), true}, {at(most-reach-1, -most), false},
		{at(most, -most-reach), true}, {at(most, -most-reach-1), false}, {at(most, -most+reach), true}, {at(most, -most+reach+1), false},
	} {
		checkBool(t, "In", ellip.In(e, x.p), x.want, e, x.p)
	}
	for _, e := range validEllipses()[:100] {
		for _, far := range []int64{1 << 30, 1<<30 + 1, -1 << 30, -1<<30 - 1, math.MaxInt64, math.MinInt64, math.MinInt64 + api.MaxPos} {
			for _, p := range []api.Point{at(far, e.C.Y), at(e.C.X, far), at(far, far), at(far, -far)} {
				checkBool(t, "In", ellip.In(e, p), false, e, p)
			}
		}
	}
}

func TestP4_1_InOfInvalidEllipses(t *testing.T) {
	for _, e := range invalidEllipses() {
		for _, p := range append(pointsOf(numbersTo(3)), e.C) {
			checkBool(t, "In", ellip.In(e, p), false, e, p)
		}
	}
}

func checkMade(t *testing.T, call string, got, want made, arguments ...any) {
	t.Helper()
	if got != want {
		t.Errorf("%s(%v) = %v, want %v", call, arguments, got, want)
	}
}

// centresAndRadii are points and numbers that are valid, at the limits, and not valid.
func centresAndRadii() ([]api.Point, []int64) {
	return pointsOf(around0(api.MaxPos)), append(around0(api.MaxRange), 3, 1000)
}

func TestP4_2_Ball(t *testing.T) {
	centres, radii := centresAndRadii()
	for _, c := range centres {
		for _, r := range radii {
			want := made{errno: api.ErrArg}
			if mayPoint(c) && isFrom(1, r, 4194304) {
				want = made{api.Ellipse{C: c, P: sym(r*r, 0, r*r)}, api.OK}
			}
			checkMade(t, "Ball", madeOf(ellip.Ball(c, r)), want, c, r)
		}
	}
}

func TestP4_2_Box(t *testing.T) {
	centres, radii := centresAndRadii()
	for _, c := range centres {
		for _, x := range radii {
			for _, y := range radii {
				want := made{errno: api.ErrArg}
				if mayPoint(c) && isFrom(1, x, 4194304) && isFrom(1, y, 4194304) {
					want = made{api.Ellipse{C: c, P: sym(2*x*x, 0, 2*y*y)}, api.OK}
				}
				checkMade(t, "Box", madeOf(ellip.Box(c, x, y)), want, c, x, y)
			}
		}
	}
}

func TestP4_2_BallAndBoxOfExamples(t *testing.T) {
	checkMade(t, "Ball", madeOf(ellip.Ball(at(1, 2), 5)), made{around(1, 2, sym(25, 0, 25)), api.OK})
	checkMade(t, "Box", madeOf(ellip.Box(at(1, 2), 3, 5)), made{around(1, 2, sym(18, 0, 50)), api.OK})
	checkMade(t, "Ball", madeOf(ellip.Ball(at(0, -4194304), 4194304)), made{around(0, -4194304, sym(1<<44, 0, 1<<44)), api.OK})
	checkMade(t, "Box", madeOf(ellip.Box(at(0, 0), 1, 4194304)), made{around(0, 0, sym(2, 0, 1<<45)), api.OK})
	ball, _ := ellip.Ball(at(0, 0), 5)
	checkBool(t, "In", ellip.In(ball, at(3, 4)), true, ball)
	ball, _ = ellip.Ball(at(0, 0), 4)
	checkBool(t, "In", ellip.In(ball, at(3, 4)), false, ball)
}

// checkShift holds Shift against the document: a u that is out of range counts before
// a new centre that is not valid.
func checkShift(t *testing.T, e api.Ellipse, u api.Point) {
	t.Helper()
	want := made{errno: api.ErrArg}
	if mayBe(e) && isFrom(-4194304, u.X, 4194304) && isFrom(-4194304, u.Y, 4194304) {
		want = made{api.Ellipse{C: plus(e.C, u), P: e.P}, api.OK}
		if !mayPoint(want.e.C) {
			want = made{errno: api.ErrOver}
		}
	}
	checkMade(t, "Shift", madeOf(ellip.Shift(e, u)), want, e, u)
}

func TestP4_2_Shift(t *testing.T) {
	moves := pointsOf(around0(api.MaxRange))
	for _, c := range pointsOf([]int64{-api.MaxPos, 1 - api.MaxPos, 0, 17, api.MaxPos - 1, api.MaxPos}) {
		for _, u := range moves {
			checkShift(t, api.Ellipse{C: c, P: sym(5, -2, 7)}, u)
		}
	}
	from := source(5)
	for _, e := range validEllipses() {
		for range 20 {
			checkShift(t, e, from.point(api.MaxRange))
			checkShift(t, e, from.point(2*api.MaxRange))
		}
	}
}

func TestP4_2_ShiftToTheBorderAndOverIt(t *testing.T) {
	p := sym(4, 1, 4)
	over := made{errno: api.ErrOver}
	for _, x := range []struct {
		c, u api.Point
		want made
	}{
		{at(5, 6), at(-7, 3), made{around(-2, 9, p), api.OK}},
		{at(4194000, 0), at(304, 0), made{around(4194304, 0, p), api.OK}},
		{at(4194000, 0), at(305, 0), over},
		{at(0, -4194000), at(0, -304), made{around(0, -4194304, p), api.OK}},
		{at(0, -4194000), at(0, -305), over},
		{at(1, 0), at(4194304, 0), over},
		{at(0, 0), at(4194304, -4194304), made{around(4194304, -4194304, p), api.OK}},
		{at(0, 0), at(4194305, 0), made{errno: api.ErrArg}},
		{at(4194304, 4194304), at(4194304, 4194304), over},
		{at(4194304, 4194304), at(4194305, 0), made{errno: api.ErrArg}},
		{at(-4194304, 4194304), at(4194304, -4194304), made{around(0, 0, p), api.OK}},
	} {
		checkMade(t, "Shift", madeOf(ellip.Shift(api.Ellipse{C: x.c, P: p}, x.u)), x.want, x.c, x.u)
	}
}

// TestP4_2_ShiftOfInvalidEllipses: not even a shift to a valid centre makes them valid.
func TestP4_2_ShiftOfInvalidEllipses(t *testing.T) {
	for _, e := range invalidEllipses() {
		for _, u := range []api.Point{at(0, 0), at(1, -1), at(-1, -1), at(api.MaxRange, 0), at(api.MaxRange+1, 0)} {
			checkMade(t, "Shift", madeOf(ellip.Shift(e, u)), made{errno: api.ErrArg}, e, u)
		}
	}
}

// checkReaches holds Trace, Radius and Hull of a valid e against the document.
func checkReaches(t *testing.T, e api.Ellipse) {
	t.Helper()
	trace := e.P.A + e.P.D
	if got := ellip.Trace(e); got != trace {
		t.Errorf("Trace(%v) = %d, want %d", e, got, trace)
	}
	if got, want := ellip.Radius(e), rootAbove(big.NewInt(trace)); got != want {
		t.Errorf("Radius(%v) = %d, want %d", e, got, want)
	}
	x, y := ellip.Hull(e)
	if wantX, wantY := rootAbove(big.NewInt(e.P.A)), rootAbove(big.NewInt(e.P.D)); x != wantX || y != wantY {
		t.Errorf("Hull(%v) = %d, %d, want %d, %d", e, x, y, wantX, wantY)
	}
}

func TestP4_3_TraceRadiusAndHull(t *testing.T) {
	for _, e := range append(smallEllipses(), validEllipses()...) {
		checkReaches(t, e)
	}
}

func TestP4_3_TraceRadiusAndHullOfExamples(t *testing.T) {
	for _, x := range []struct {
		p                   api.Sym
		trace, radius, x, y int64
	}{
		{sym(25, 12, 10), 35, 6, 5, 4},
		{sym(16, 0, 9), 25, 5, 4, 3},
		{sym(17, 0, 9), 26, 6, 5, 3},
		{sym(1, 0, 1), 2, 2, 1, 1},
		{sym(1, 0, 2), 3, 2, 1, 2},
		{sym(1<<46, 0, 1<<46), 1 << 47, 11863284, 1 << 23, 1 << 23},
		{sym(1<<46-1, 5, 1), 1 << 46, 1 << 23, 1 << 23, 1},
	} {
		e := around(-3, 4, x.p)
		reachX, reachY := ellip.Hull(e)
		if trace, radius := ellip.Trace(e), ellip.Radius(e); trace != x.trace || radius != x.radius || reachX != x.x || reachY != x.y {
			t.Errorf("%v: trace %d, radius %d, hull %d, %d, want %v", e, trace, radius, reachX, reachY, x)
		}
	}
}

func checkAlong(t *testing.T, e api.Ellipse, h api.Point) {
	t.Helper()
	want := reach{0, api.ErrArg}
	if mayBe(e) && isFrom(-16777216, h.X, 16777216) && isFrom(-16777216, h.Y, 16777216) {
		want = reach{rootAbove(quad(e.P, h)), api.OK}
	}
	if got := reachOf(ellip.Along(e, h)); got != want {
		t.Errorf("Along(%v, %v) = %v, want %v", e, h, got, want)
	}
}

func TestP4_3_Along(t *testing.T) {
	small := pointsOf(numbersTo(3))
	for _, e := range smallEllipses() {
		for _, h := range small {
			checkAlong(t, e, h)
		}
	}
	from := source(6)
	for _, e := range validEllipses() {
		for range 20 {
			checkAlong(t, e, from.point(1<<24))
			checkAlong(t, e, from.point(1<<25))
		}
	}
}

func TestP4_3_AlongAtTheLimits(t *testing.T) {
	directions := pointsOf(around0(1 << 24))
	for _, e := range validEllipses()[:20] {
		for _, h := range directions {
			checkAlong(t, e, h)
		}
	}
	e := around(10, 20, sym(25, 12, 10))
	for _, x := range []struct {
		h    api.Point
		want reach
	}{
		{at(0, 0), reach{0, api.OK}}, {at(1, 0), reach{5, api.OK}}, {at(0, 1), reach{4, api.OK}}, {at(1, 1), reach{8, api.OK}},
		{at(1, -1), reach{4, api.OK}}, {at(-2, -3), reach{19, api.OK}}, {at(1<<24, 0), reach{5 << 24, api.OK}},
		{at(1<<24+1, 0), reach{0, api.ErrArg}}, {at(-1<<24, 0), reach{5 << 24, api.OK}}, {at(0, -1<<24-1), reach{0, api.ErrArg}},
	} {
		if got := reachOf(ellip.Along(e, x.h)); got != x.want {
			t.Errorf("Along(%v, %v) = %v, want %v", e, x.h, got, x.want)
		}
	}
	greatest := around(0, 0, sym(api.MaxVar, 0, api.MaxVar))
	if got, want := reachOf(ellip.Along(greatest, at(1<<24, 1<<24))), (reach{199032864766431, api.OK}); got != want {
		t.Errorf("Along of the greatest ball = %v, want %v", got, want)
	}
}

func TestP4_3_InvalidEllipses(t *testing.T) {
	for _, e := range invalidEllipses() {
		x, y := ellip.Hull(e)
		if trace, radius := ellip.Trace(e), ellip.Radius(e); trace != 0 || radius != 0 || x != 0 || y != 0 {
			t.Errorf("%v: trace %d, radius %d, hull %d, %d, want zeros", e, trace, radius, x, y)
		}
		for _, h := range []api.Point{at(0, 0), at(1, 1), at(1<<24+1, 0)} {
			if got := reachOf(ellip.Along(e, h)); got != (reach{0, api.ErrArg}) {
				t.Errorf("Along(%v, %v) = %v, want ErrArg", e, h, got)
			}
		}
	}
}

func TestP4_5_BallContainsTheBall(t *testing.T) {
	points := pointsOf(numbersTo(14))
	for _, c := range []api.Point{at(0, 0), at(-3, 8), at(api.MaxPos, -api.MaxPos)} {
		for r := int64(1); r <= 12; r++ {
			ball, _ := ellip.Ball(c, r)
			for _, d := range points {
				checkBool(t, "In", ellip.In(ball, plus(c, d)), d.X*d.X+d.Y*d.Y <= r*r, ball, d)
			}
		}
	}
	from := source(7)
	for range 5000 {
		c, r := from.point(api.MaxPos), 1+max(from.to(api.MaxRange-1), 0)
		ball, _ := ellip.Ball(c, r)
		x := from.to(r)
		y := new(big.Int).Sqrt(big.NewInt(r*r - x*x)).Int64()
		for _, d := range []api.Point{at(x, y), at(x, -y), at(y, x), at(r, 0), at(0, -r)} {
			checkBool(t, "In", ellip.In(ball, plus(c, d)), true, ball, d)
		}
		checkBool(t, "In", ellip.In(ball, plus(c, at(x, y+1))), false, ball, x, y+1)
	}
}

func TestP4_5_BoxContainsTheBox(t *testing.T) {
	c := at(-3, 8)
	for x := int64(1); x <= 8; x++ {
		for y := int64(1); y <= 8; y++ {
			box, _ := ellip.Box(c, x, y)
			for dx := -x; dx <= x; dx++ {
				for dy := -y; dy <= y; dy++ {
					checkBool(t, "In", ellip.In(box, plus(c, at(dx, dy))), true, box, dx, dy)
				}
			}
		}
	}
	from := source(8)
	for range 5000 {
		c, x, y := from.point(api.MaxPos), 1+max(from.to(api.MaxRange-1), 0), 1+max(from.to(api.MaxRange-1), 0)
		box, _ := ellip.Box(c, x, y)
		for _, d := range []api.Point{at(x, y), at(x, -y), at(-x, y), at(-x, -y), at(from.to(x), from.to(y))} {
			checkBool(t, "In", ellip.In(box, plus(c, d)), true, box, d)
		}
		for _, d := range []api.Point{at(x, y+1), at(x+1, -y)} { // the border goes through the corners
			checkBool(t, "In", ellip.In(box, plus(c, d)), false, box, d)
		}
	}
}

func TestP4_5_ShiftContainsTheShiftedPoints(t *testing.T) {
	from := source(9)
	for _, e := range append(smallEllipses(), validEllipses()...) {
		u := from.point(api.MaxRange)
		moved, errno := ellip.Shift(e, u)
		if errno != api.OK {
			continue
		}
		for _, p := range from.border(e) {
			checkBool(t, "In", ellip.In(moved, plus(p, u)), ellip.In(e, p), e, u, p)
		}
	}
}

// checkWithin holds that a point of e is within Hull, Radius and Along of the centre.
func checkWithin(t *testing.T, e api.Ellipse, p api.Point, directions []api.Point) {
	t.Helper()
	d := at(p.X-e.C.X, p.Y-e.C.Y)
	x, y := ellip.Hull(e)
	if !isFrom(-x, d.X, x) || !isFrom(-y, d.Y, y) {
		t.Errorf("%v: %v is beyond the hull %d, %d", e, p, x, y)
	}
	r := ellip.Radius(e)
	if sum(product(d.X, d.X), product(d.Y, d.Y)).Cmp(product(r, r)) > 0 {
		t.Errorf("%v: %v is beyond the radius %d", e, p, r)
	}
	for _, h := range directions {
		along, errno := ellip.Along(e, h)
		if errno != api.OK || sum(product(h.X, d.X), product(h.Y, d.Y)).CmpAbs(big.NewInt(along)) > 0 {
			t.Errorf("%v: %v is beyond Along of %v = %d, %v", e, p, h, along, errno)
		}
	}
}

func TestP4_5_AllPointsAreWithinTheBounds(t *testing.T) {
	points, directions := pointsOf(numbersTo(8)), pointsOf(numbersTo(2))
	for _, e := range smallEllipses() {
		for _, p := range inside(e, points) {
			checkWithin(t, e, p, directions)
		}
	}
	from := source(10)
	for _, e := range validEllipses() {
		for range 5 {
			for _, p := range inside(e, from.border(e)) {
				checkWithin(t, e, p, []api.Point{from.point(1 << 24), from.point(1 << 24), at(1<<24, -1<<24), at(1, 1)})
			}
		}
	}
}
