package grow_test

import (
	"math"
	"math/big"
	"sort"
	"testing"

	"alidade/api"
	"alidade/ellip"
	"alidade/grow"
)

// checkSum holds Sum of e and f, in both orders, against the document.
func checkSum(t *testing.T, e, f api.Ellipse) {
	t.Helper()
	want := wantSum(e, f)
	checkMade(t, "Sum", madeOf(grow.Sum(e, f)), want, e, f)
	checkMade(t, "Sum", madeOf(grow.Sum(f, e)), want, f, e)
}

func TestP5_1_SumOfSmallEllipses(t *testing.T) {
	others := atMost(5, at(2, -5))
	for _, e := range atMost(5, at(-7, 3)) {
		for _, f := range others {
			checkSum(t, e, f)
		}
	}
}

func TestP5_1_SumOfAllLengths(t *testing.T) {
	from := source(1)
	for range 10000 {
		checkSum(t, from.ellipse(mostVar), from.ellipse(mostVar))
		checkSum(t, from.ellipse(1<<44), from.ellipse(1<<20))
	}
}

// TestP5_1_SumOnBothSidesOfTheBorder: one more in A or in D makes the sum over.
func TestP5_1_SumOnBothSidesOfTheBorder(t *testing.T) {
	from := source(6)
	for range 500 {
		e, f := from.ellipse(1<<40), from.ellipse(1<<40)
		e.C, f.C = from.point(mostPos/2), from.point(mostPos/2)
		for _, step := range []api.Sym{sym(1, 0, 0), sym(0, 0, 1), sym(1, 0, 1)} {
			greater := func(n int) api.Ellipse {
				k := int64(n)
				return api.Ellipse{C: e.C, P: sym(e.P.A+k*step.A, e.P.B, e.P.D+k*step.D)}
			}
			beyond := sort.Search(mostVar, func(n int) bool { return wantSum(greater(n), f).errno != api.OK })
			checkSum(t, greater(beyond-1), f)
			checkSum(t, greater(beyond), f)
		}
	}
}

func TestP5_1_SumAtTheLimits(t *testing.T) {
	list := limitEllipses()
	from := source(2)
	for _, e := range list {
		for _, f := range list {
			checkSum(t, e, f)
		}
		checkSum(t, e, from.ellipse(1<<40))
	}
}

func TestP5_1_SumOfExamples(t *testing.T) {
	for _, x := range []struct{ p, q, sum api.Sym }{
		{sym(1, 0, 1), sym(1, 0, 1), sym(6, 0, 6)},
		{sym(100, 0, 100), sym(100, 0, 100), sym(402, 0, 402)},
		{sym(16, 0, 9), sym(1, 0, 1), sym(29, 0, 19)},
		{sym(25, 12, 10), sym(4, -1, 4), sym(52, 15, 29)},
		{sym(25, -12, 10), sym(4, 1, 4), sym(52, -15, 29)},
		{sym(2, 1, 1), sym(1, -1, 2), sym(8, 0, 8)},
		{sym(7, -3, 2), sym(50, 11, 3), sym(97, 4, 15)},
		{sym(1<<40, 123456789, 1<<30), sym(1<<20, -5, 1<<10), sym(1101660160259, 123572288, 1075840003)},
		{sym(1, 0, 1), sym(1<<44, 0, 1<<44), sym(17592194941882, 0, 17592194941882)},
	} {
		got := madeOf(grow.Sum(around(1, 2, x.p), around(10, -20, x.q)))
		checkMade(t, "Sum", got, made{around(11, -18, x.sum), api.OK}, x.p, x.q)
	}
}

// TestP5_1_SumWhoseCentreIsAtTheBorder: the sum of the matrices is valid each time.
func TestP5_1_SumWhoseCentreIsAtTheBorder(t *testing.T) {
	const most = mostPos
	for _, x := range []struct {
		c, d  api.Point
		errno api.Errno
	}{
		{at(most, -most), at(0, 0), api.OK}, {at(most, most), at(-most, -most), api.OK}, {at(-most, most), at(most, -1), api.OK},
		{at(most-1, 0), at(1, 0), api.OK}, {at(most, 0), at(1, 0), api.ErrOver},
		{at(1-most, 0), at(-1, 0), api.OK}, {at(-most, 0), at(-1, 0), api.ErrOver},
		{at(0, most-1), at(0, 1), api.OK}, {at(0, most), at(0, 1), api.ErrOver},
		{at(0, 1-most), at(0, -1), api.OK}, {at(0, -most), at(0, -1), api.ErrOver},
		{at(most/2, -most/2), at(most/2, -most/2), api.OK}, {at(most/2, 0), at(most/2+1, 0), api.ErrOver}, {at(0, -most/2), at(0, -most/2-1), api.ErrOver},
		{at(most, most), at(most, most), api.ErrOver}, {at(-most, -most), at(-most, -most), api.ErrOver}, {at(most, 1), at(-1, most), api.ErrOver},
		{at(-1, 0), at(most+1, 0), api.ErrArg}, {at(0, 1), at(0, -most-1), api.ErrArg},
	} {
		want := made{errno: x.errno}
		if x.errno == api.OK {
			want.e = api.Ellipse{C: plus(x.c, x.d), P: sym(52, 15, 29)}
		}
		e, f := api.Ellipse{C: x.c, P: sym(25, 12, 10)}, api.Ellipse{C: x.d, P: sym(4, -1, 4)}
		checkMade(t, "Sum", madeOf(grow.Sum(e, f)), want, e, f)
		checkMade(t, "Sum", madeOf(grow.Sum(f, e)), want, f, e)
	}
}

// TestP5_1_SumWhoseMatrixIsAtTheBorder: one more in A, in D, or in both, leads to a
// sum that is beyond MaxVar by 1 there.
func TestP5_1_SumWhoseMatrixIsAtTheBorder(t *testing.T) {
	const most = mostVar
	for _, x := range []struct{ p, q, sum, step api.Sym }{
		{sym(70368723206144, 0, 1), sym(1, 0, 1), sym(most, 0, 4194309), sym(1, 0, 0)},
		{sym(1, 0, 70368723206144), sym(1, 0, 1), sym(4194309, 0, most), sym(0, 0, 1)},
		{sym(70368719011841, 0, 1), sym(2, 1, 1), sym(most, 4194304, 4194309), sym(1, 0, 0)},
		{sym(70368570598119, 1<<20, 1<<10), sym(100, -7, 50), sym(most, -3468368, 32264916), sym(1, 0, 0)},
		{sym(70368726382738, 0, 70368726382738), sym(1, 0, 1), sym(most, 0, most), sym(1, 0, 1)},
		{sym(70368726382738, 70368726382737, 70368726382738), sym(1, 0, 1), sym(most, 70368738246018, most), sym(1, 1, 1)},
	} {
		e, f := around(5, -6, x.p), around(7, 8, x.q)
		checkMade(t, "Sum", madeOf(grow.Sum(e, f)), made{around(12, 2, x.sum), api.OK}, e, f)
		beyond := around(5, -6, sym(x.p.A+x.step.A, x.p.B+x.step.B, x.p.D+x.step.D))
		checkMade(t, "Sum", madeOf(grow.Sum(beyond, f)), over, beyond, f)
		checkMade(t, "Sum", madeOf(grow.Sum(f, beyond)), over, f, beyond)
	}
}

// TestP5_1_SumOfInvalidEllipses: they count before a sum that is not valid.
func TestP5_1_SumOfInvalidEllipses(t *testing.T) {
	others := append(invalidEllipses(), limitEllipses()...)
	for _, e := range invalidEllipses() {
		for _, f := range others {
			checkMade(t, "Sum", madeOf(grow.Sum(e, f)), refused, e, f)
			checkMade(t, "Sum", madeOf(grow.Sum(f, e)), refused, f, e)
		}
	}
}

// radii are around the limits, and at both ends of int64.
func radii() []int64 {
	return []int64{
		math.MinInt64, math.MinInt64 + 1, -1 << 32, -mostRange - 1, -mostRange, -2, -1, 0, 1, 2, 3, 10, 1000,
		mostRange - 1, mostRange, mostRange + 1, 1 << 32, math.MaxInt64 - 1, math.MaxInt64,
	}
}

func checkBall(t *testing.T, e api.Ellipse, r int64) {
	t.Helper()
	checkMade(t, "Ball", madeOf(grow.Ball(e, r)), wantBall(e, r), e, r)
}

func TestP5_2_Ball(t *testing.T) {
	for _, e := range append(atMost(4, at(3, -4)), limitEllipses()...) {
		for _, r := range radii() {
			checkBall(t, e, r)
		}
	}
	from := source(3)
	for range 5000 {
		e := from.ellipse(mostVar)
		checkBall(t, e, from.to(2*mostRange))
		checkBall(t, e, 0)
	}
}

func TestP5_2_BallOfExamples(t *testing.T) {
	for _, x := range []struct {
		p    api.Sym
		r    int64
		want made
	}{
		{sym(100, 0, 100), 10, made{around(-3, 4, sym(402, 0, 402)), api.OK}},
		{sym(100, 5, 90), 0, made{around(-3, 4, sym(100, 5, 90)), api.OK}},
		{sym(16, 0, 9), 1, made{around(-3, 4, sym(29, 0, 19)), api.OK}},
		{sym(1, 0, 1), mostRange, made{around(-3, 4, sym(17592194941882, 0, 17592194941882)), api.OK}},
		{sym(1, 0, 1), mostRange + 1, refused},
		{sym(1, 0, 1), -1, refused},
		{sym(1<<44-1, 0, 1<<44-1), mostRange, made{around(-3, 4, sym(mostVar, 0, mostVar)), api.OK}},
		{sym(1<<44, 0, 1<<44), mostRange, over},
		{sym(70368726382738, 0, 70368726382738), 1, made{around(-3, 4, sym(mostVar, 0, mostVar)), api.OK}},
		{sym(70368726382739, 0, 70368726382739), 1, over},
		{sym(mostVar, 0, mostVar), 0, made{around(-3, 4, sym(mostVar, 0, mostVar)), api.OK}},
		{sym(mostVar, 0, mostVar), 1, over},
		{sym(mostVar, 0, mostVar), mostRange, over},
		{sym(mostVar, 0, mostVar), mostRange + 1, refused},
	} {
		checkMade(t, "Ball", madeOf(grow.Ball(around(-3, 4, x.p), x.r)), x.want, x.p, x.r)
	}
	e, _ := ellip.Ball(at(0, 0), 10)
	if grown, _ := grow.Ball(e, 10); ellip.Trace(grown) != 804 {
		t.Errorf("Trace of Ball(%v, 10) = %d, want 804", e, ellip.Trace(grown))
	}
}

// TestP5_2_BallKeepsTheCentre: not even a centre in a corner is beyond the border.
func TestP5_2_BallKeepsTheCentre(t *testing.T) {
	for _, c := range []api.Point{at(mostPos, mostPos), at(mostPos, -mostPos), at(-mostPos, mostPos), at(-mostPos, -mostPos)} {
		e := api.Ellipse{C: c, P: sym(100, 0, 100)}
		want := made{api.Ellipse{C: c, P: sym(402, 0, 402)}, api.OK}
		checkMade(t, "Ball", madeOf(grow.Ball(e, 10)), want, e)
		checkMade(t, "Age", madeOf(grow.Age(e, 5, 2)), want, e)
	}
}

func TestP5_2_BallOfInvalidEllipses(t *testing.T) {
	for _, e := range invalidEllipses() {
		for _, r := range radii() {
			checkMade(t, "Ball", madeOf(grow.Ball(e, r)), refused, e, r)
		}
	}
}

func checkAge(t *testing.T, e api.Ellipse, speed, ticks int64) {
	t.Helper()
	checkMade(t, "Age", madeOf(grow.Age(e, speed, ticks)), wantAge(e, speed, ticks), e, speed, ticks)
	checkMade(t, "Age", madeOf(grow.Age(e, ticks, speed)), wantAge(e, ticks, speed), e, ticks, speed)
}

// agedEllipses are a small one, two for which the sum with a ball is sometimes over,
// and one for which it is always over.
func agedEllipses() []api.Ellipse {
	return []api.Ellipse{
		around(3, -4, sym(9, -2, 7)),
		around(mostPos, mostPos, sym(1<<44-1, 0, 1<<44-1)),
		around(-mostPos, 0, sym(70368726382738, 70368726382737, 70368726382738)),
		around(0, mostPos, sym(mostVar, 1-mostVar, mostVar)),
	}
}

func TestP5_2_Age(t *testing.T) {
	factors := append(radii(), 5, 397, 2048, 2049, 10565, 838861, 1<<21, 1<<31, 1<<33, 1<<62)
	for _, e := range agedEllipses() {
		for _, speed := range factors {
			for _, ticks := range factors {
				checkAge(t, e, speed, ticks)
			}
		}
	}
	from := source(4)
	for range 10000 {
		e := from.ellipse(mostVar)
		speed := from.from0(1 << 24)
		checkAge(t, e, speed, mostRange/max(speed, 1)+from.to(2)%2)
		checkAge(t, e, speed, from.to(1<<24))
		checkAge(t, e, from.to(1<<61), from.to(1<<61))
	}
}

// TestP5_2_AgeAtTheLimits: 4194305 is 5 * 838861, and 397 * 10565. In an int64, the
// last products would be 5, 0, 0, 1 and a negative number.
func TestP5_2_AgeAtTheLimits(t *testing.T) {
	const most = math.MaxInt64
	e := around(-3, 4, sym(100, 0, 100))
	same := made{e, api.OK}
	farthest := made{around(-3, 4, sym(17592270076108, 0, 17592270076108)), api.OK}
	for _, x := range []struct {
		speed, ticks int64
		want         made
	}{
		{0, 0, same}, {0, 1, same}, {1, 0, same}, {0, most, same}, {most, 0, same}, {0, mostRange + 1, same},
		{5, 2, made{around(-3, 4, sym(402, 0, 402)), api.OK}}, {10, 1, made{around(-3, 4, sym(402, 0, 402)), api.OK}},
		{1, mostRange, farthest}, {mostRange, 1, farthest}, {2048, 2048, farthest}, {4, 1 << 20, farthest},
		{1, mostRange + 1, over}, {mostRange + 1, 1, over}, {5, 838861, over}, {10565, 397, over}, {mostRange, 2, over}, {2048, 2049, over},
		{3, 6148914691236517207, over}, {1 << 32, 1 << 32, over}, {1 << 62, 4, over}, {most, most, over}, {1 << 62, 3, over},
		{-1, 0, refused}, {0, -1, refused}, {-1, -1, refused}, {-5, -2, refused}, {-1, 5, refused}, {5, -1, refused},
		{-1, most, refused}, {most, -1, refused}, {math.MinInt64, 0, refused}, {0, math.MinInt64, refused}, {math.MinInt64, most, refused},
	} {
		checkMade(t, "Age", madeOf(grow.Age(e, x.speed, x.ticks)), x.want, x.speed, x.ticks)
	}
}

// TestP5_2_AgeOfInvalidEllipses: they count before products that are too great.
func TestP5_2_AgeOfInvalidEllipses(t *testing.T) {
	for _, e := range invalidEllipses() {
		for _, speed := range radii() {
			for _, ticks := range []int64{0, 1, -1, 2, mostRange, math.MaxInt64, math.MinInt64} {
				checkMade(t, "Age", madeOf(grow.Age(e, speed, ticks)), refused, e, speed, ticks)
			}
		}
	}
}

// pointsOf are the integer points of an ellipse that reaches at most 3 to each side.
func pointsOf(e api.Ellipse) []api.Point {
	var all []api.Point
	for x := int64(-3); x <= 3; x++ {
		for y := int64(-3); y <= 3; y++ {
			if p := plus(e.C, at(x, y)); ellip.In(e, p) {
				all = append(all, p)
			}
		}
	}
	return all
}

// checkContains holds that the ellipse that a call made contains p.
func checkContains(t *testing.T, m made, p api.Point, arguments ...any) {
	t.Helper()
	if m.errno != api.OK || !ellip.In(m.e, p) {
		t.Errorf("%v does not contain %v (made of %v)", m, p, arguments)
	}
}

func TestP5_3_SumContainsAllSumsOfPoints(t *testing.T) {
	var others []api.Ellipse
	for i, f := range atMost(9, at(mostPos-50, 8)) {
		if i%13 == 0 {
			others = append(others, f)
		}
	}
	for _, e := range atMost(4, at(-5, -7)) {
		for _, f := range others {
			sum := madeOf(grow.Sum(e, f))
			for _, x := range pointsOf(e) {
				for _, y := range pointsOf(f) {
					checkContains(t, sum, plus(x, y), e, f)
				}
			}
		}
	}
}

// TestP5_3_BallContainsWhatMoves: by at most 6, in one go or in 2 or 3 ticks.
func TestP5_3_BallContainsWhatMoves(t *testing.T) {
	for _, e := range atMost(4, at(-mostPos, mostPos)) {
		ball := madeOf(grow.Ball(e, 6))
		for _, factors := range [][2]int64{{6, 1}, {1, 6}, {3, 2}, {2, 3}} {
			checkMade(t, "Age", madeOf(grow.Age(e, factors[0], factors[1])), ball, e, factors)
		}
		for _, x := range pointsOf(e) {
			for u := int64(-6); u <= 6; u++ {
				for v := int64(-6); v <= 6; v++ {
					if u*u+v*v <= 36 {
						checkContains(t, ball, plus(x, at(u, v)), e, u, v)
					}
				}
			}
		}
	}
}

// checkOutweighs holds that the matrix of the sum is at least (1 + t/s) P + (1 + s/t) Q,
// whatever the rounding did. Both are taken times s * t, which makes all numbers integers.
func checkOutweighs(t *testing.T, e, f, sum api.Ellipse) {
	t.Helper()
	s, u := radius(e), radius(f)
	entry := func(p, q, r int64) *big.Int {
		return difference(product(s, u, r), total(product(s+u, u, p), product(s+u, s, q)))
	}
	a, b, d := entry(e.P.A, f.P.A, sum.P.A), entry(e.P.B, f.P.B, sum.P.B), entry(e.P.D, f.P.D, sum.P.D)
	if a.Sign() < 0 || d.Sign() < 0 || det(a, b, d).Sign() < 0 {
		t.Errorf("%v is less than the exact sum of %v and %v", sum, e, f)
	}
}

// checkReaches holds that the sum reaches at least as far in a direction as e and f
// together do: then it contains all sums of points, not only of integer ones. How far
// an ellipse reaches is a square root; p, q and r are the squares.
func checkReaches(t *testing.T, e, f, sum api.Ellipse, h api.Point) {
	t.Helper()
	p, q, r := quad(e.P, h), quad(f.P, h), quad(sum.P, h)
	rest := difference(r, total(p, q)) // has to be at least 2 * sqrt(p * q)
	twice := new(big.Int).Lsh(new(big.Int).Mul(p, q), 2)
	if rest.Sign() < 0 || new(big.Int).Mul(rest, rest).Cmp(twice) < 0 {
		t.Errorf("%v, the sum of %v and %v, does not reach far enough along %v", sum, e, f, h)
	}
}

func TestP5_3_SumOutweighsTheRounding(t *testing.T) {
	from := source(5)
	checked := 0
	check := func(e, f api.Ellipse) {
		sum, errno := grow.Sum(e, f)
		if errno != api.OK {
			return
		}
		checked++
		if sum.C != plus(e.C, f.C) {
			t.Errorf("the centre of Sum(%v, %v) is %v", e, f, sum.C)
		}
		checkOutweighs(t, e, f, sum)
		for _, h := range []api.Point{at(1, 0), at(0, 1), at(1, 1), at(1, -1), from.point(1 << 20), from.point(1 << 20)} {
			checkReaches(t, e, f, sum, h)
		}
	}
	small := atMost(6, at(0, 0))
	for i, e := range small {
		for j := i % 7; j < len(small); j += 7 {
			check(e, small[j])
		}
	}
	for range 10000 {
		check(from.ellipse(1<<45), from.ellipse(1<<45))
	}
	if checked < 10000 {
		t.Errorf("only %d sums were made", checked)
	}
}
