package info_test

import (
	"math/big"
	"sort"
	"testing"

	"alidade/api"
	"alidade/info"
)

func checkEllipse(t *testing.T, i inequality) {
	t.Helper()
	checkMade(t, "Ellipse", madeOf(info.Ellipse(i.info())), wantEllipse(i), i)
}

func TestP6_3_EllipseOfSmallInequalities(t *testing.T) {
	from := source(21)
	count := map[api.Errno]int{}
	for range 30000 {
		i := small(from.to(9), from.to(4), from.to(9), from.to(40), from.to(40), from.to(200), from.to(200))
		checkEllipse(t, i)
		count[wantEllipse(i).errno]++
	}
	if count[api.OK] < 1500 || count[api.ErrArg] < 1500 || count[api.ErrEmpty] < 500 {
		t.Errorf("the results are %v", count)
	}
}

func TestP6_3_EllipseOfAllLengths(t *testing.T) {
	from := source(22)
	count := map[api.Errno]int{}
	for _, bits := range []int{20, 40, 60, 100, 150, 170, 200, 204, 205, 206, 250, 300, 512, mostBits} {
		for range 1000 {
			i := from.inequality(bits)
			checkEllipse(t, i)
			count[wantEllipse(i).errno]++
		}
	}
	if count[api.ErrOver] < 1000 || count[api.ErrArg] < 1000 || count[api.ErrEmpty] < 100 {
		t.Errorf("the results are %v", count)
	}
}

func TestP6_3_EllipseOfMixtures(t *testing.T) {
	from := source(23)
	for range 3000 {
		e, f, s := from.meeting()
		checkEllipse(t, ofEllipse(e))
		checkEllipse(t, mixed(ofEllipse(e), ofEllipse(f), from.below(weights+1)))
		checkEllipse(t, mixed(ofEllipse(e), ofStrip(s), from.below(weights+1)))
		checkEllipse(t, mixed(mixed(ofEllipse(e), ofStrip(s), 9), ofEllipse(f), 25))
	}
}

func TestP6_3_EllipseOfExamples(t *testing.T) {
	for _, x := range []struct {
		i    inequality
		want made
	}{
		{small(1, 0, 1, 0, 0, 0, 0), okay(0, 0, sym(6, 0, 6))},
		{small(1, 0, 1, 0, 0, 0, 1), okay(0, 0, sym(8, 0, 8))},
		{small(2, 0, 3, 4, -6, 0, 100), okay(2, -2, sym(82, 0, 58))},
		{small(3, 1, 2, 5, -7, 9, 60), okay(3, -5, sym(60, -25, 85))},
		{small(3, -1, 2, 5, -7, 9, 60), okay(1, -3, sym(48, 18, 66))},
		{small(5, 2, 1, -13, 8, 0, 0), okay(-29, 66, sym(971, -1859, 4689))},
		{small(10, -12, 25, -16, 51, 121, 106), okay(2, 3, sym(41, 15, 22))},
		{small(7, 5, 6, 1000, -3000, 1234567, 99999), okay(1235, -1529, sym(1657627, -1380564, 1933739))},
		{small(7, -5, 6, 1000, -3000, -1234567, 99999), okay(-529, -941, sym(1283087, 1068540, 1496795))},
	} {
		checkMade(t, "Ellipse", madeOf(info.Ellipse(x.i.info())), x.want, x.i)
	}
}

// TestP6_3_EllipseRoundsTheCentre: halves are rounded up.
func TestP6_3_EllipseRoundsTheCentre(t *testing.T) {
	for _, x := range []struct {
		i    inequality
		want made
	}{
		{small(2, 0, 2, 1, -1, 0, 0), okay(1, 0, sym(8, 0, 8))},
		{small(2, 0, 2, -1, 1, 1, 1), okay(0, 1, sym(8, 0, 8))},
		{small(2, 0, 2, 3, -3, 0, 0), okay(2, -1, sym(14, 0, 14))},
		{small(3, 0, 3, 1, -1, 0, 0), okay(0, 0, sym(8, 0, 8))},
		{small(3, 0, 3, 2, -2, 0, 0), okay(1, -1, sym(8, 0, 8))},
	} {
		checkMade(t, "Ellipse", madeOf(info.Ellipse(x.i.info())), x.want, x.i)
	}
}

// TestP6_3_EllipseWhoseCentreIsAtTheBorder, and one beyond, or half of one; an R of 0
// makes it the smallest ellipse that there is, one of -1 counts before the border.
func TestP6_3_EllipseWhoseCentreIsAtTheBorder(t *testing.T) {
	const most = mostPos
	for _, x := range []struct {
		u, n int64 // the coordinate is u / n
		want int64
		ok   bool
	}{
		{most - 1, 1, most - 1, true}, {most, 1, most, true}, {most + 1, 1, 0, false},
		{1 - most, 1, 1 - most, true}, {-most, 1, -most, true}, {-most - 1, 1, 0, false},
		{2 * most, 2, most, true}, {2*most + 1, 2, 0, false}, {-2*most - 1, 2, -most, true}, {-2*most - 2, 2, 0, false},
		{3*most + 1, 3, most, true}, {3*most + 2, 3, 0, false}, {-3*most - 1, 3, -most, true}, {-3*most - 2, 3, 0, false},
		{1 << 40, 1, 0, false}, {-1 << 40, 1, 0, false}, {1 << 62, 1, 0, false},
	} {
		z := quotientBelow(times(of(x.u), of(x.u)), of(x.n)) // Den is 0: R is at least 0, and less than n^2
		alongX := inequality{of(x.n), of(0), of(x.n), of(x.u), of(0), z, of(0)}
		alongY := inequality{of(x.n), of(0), of(x.n), of(0), of(x.u), z, of(0)}
		gotX, gotY := madeOf(info.Ellipse(alongX.info())), madeOf(info.Ellipse(alongY.info()))
		checkMade(t, "Ellipse", gotX, wantEllipse(alongX), alongX)
		checkMade(t, "Ellipse", gotY, wantEllipse(alongY), alongY)
		if x.ok != (gotX.errno == api.OK) || gotX.e.C != at(x.want, 0) || gotY.e.C != at(0, x.want) {
			t.Errorf("the centres at %d / %d are %v and %v", x.u, x.n, gotX, gotY)
		}
		alongX.den, alongY.den = of(-1), of(-1)
		checkMade(t, "Ellipse", madeOf(info.Ellipse(alongX.info())), empty, alongX)
		checkMade(t, "Ellipse", madeOf(info.Ellipse(alongY.info())), empty, alongY)
	}
	// Numbers that do not fit into an int64, and twice of which is over.
	for _, n := range []number{power(62), power(63), beside(power(63), -1), power(64), power(200), power(255)} {
		for _, i := range []inequality{
			{of(1), of(0), of(1), n, of(0), times(n, n), of(0)}, {of(1), of(0), of(1), of(0), minus(n), times(n, n), of(0)},
		} {
			checkMade(t, "Ellipse", madeOf(info.Ellipse(i.info())), over, i)
		}
	}
}

// TestP6_3_EllipseWhoseMatrixIsAtTheBorder: the last numbers that are not over were
// found by a search outside the program.
func TestP6_3_EllipseWhoseMatrixIsAtTheBorder(t *testing.T) {
	const most = mostVar
	for _, x := range []struct {
		a, b, d, den int64
		want         api.Sym
	}{
		{1, 0, 1, 70368726382737, sym(most, 0, most)},
		{1, 0, 1000000, 70368723206148, sym(most, 0, 74563051)},
		{1000000, 0, 1, 70368723206148, sym(74563051, 0, most)},
		{1, 1, 2, 35184362671085, sym(70368744177663, -35184369520354, 35184374657310)},
		{2, 1, 1, 35184362671085, sym(35184374657310, -35184369520354, 70368744177663)},
		{2, -1, 1, 35184362671085, sym(35184374657310, 35184369520353, 70368744177663)},
		{13, -8, 5, 5412978844949, sym(27064904643977, 43303839533678, 70368744177655)},
		{13, 8, 5, 5412978844949, sym(27064904643977, -43303839533679, 70368744177655)},
		{5, 0, 7, 351843629361090, sym(most, 0, 50263390267371)},
	} {
		i := small(x.a, x.b, x.d, 0, 0, 0, x.den)
		checkMade(t, "Ellipse", madeOf(info.Ellipse(i.info())), made{api.Ellipse{P: x.want}, api.OK}, i)
		i.den = of(x.den + 1)
		checkMade(t, "Ellipse", madeOf(info.Ellipse(i.info())), over, i)
	}
	// The ellipse itself is at the border and beyond it; then its numbers are at the
	// border of an int64 and beyond it.
	for _, den := range []number{
		of(most - 2), of(most - 1), of(most), beside(power(61), -2), beside(power(61), -1), power(61),
		beside(power(63), -2), beside(power(63), -1), power(63), power(64), beside(power(64), -1), power(200), power(300),
	} {
		for _, i := range []inequality{
			{of(1), of(0), of(1), of(0), of(0), of(0), den}, {of(1), of(0), power(100), of(0), of(0), of(0), den}, {power(100), of(0), of(1), of(0), of(0), of(0), den},
			{of(1), of(1), of(2), of(0), of(0), of(0), den}, {of(2), of(-1), of(1), of(0), of(0), of(0), den}, {of(1), of(0), of(1), of(0), of(0), minus(den), of(0)},
		} {
			checkMade(t, "Ellipse", madeOf(info.Ellipse(i.info())), over, i)
		}
	}
}

// TestP6_3_EllipseOnBothSidesOfTheBorder: one more in Den makes a number over.
func TestP6_3_EllipseOnBothSidesOfTheBorder(t *testing.T) {
	from := source(24)
	for range 300 {
		i := ofEllipse(from.ellipse(1 << 20))
		i.den = of(0)
		at := func(n int) inequality {
			greater := i
			greater.den = sum(i.z, times(of(int64(n)), of(1+int64(n)%7)))
			return greater
		}
		beyond := sort.Search(1<<60, func(n int) bool { return wantEllipse(at(n-n%7)).errno != api.OK })
		for k := -15; k <= 15; k++ {
			checkEllipse(t, at(beyond+k))
		}
	}
}

// TestP6_3_StepsInTheirOrder: each inequality has faults of several steps, and the first
// one counts.
func TestP6_3_StepsInTheirOrder(t *testing.T) {
	far, huge := times(of(mostPos+1), of(mostPos+1)), power(600)
	for _, x := range []struct {
		i    inequality
		want made
	}{
		// A, d and R of 0, 1 and -1.
		{small(0, 0, 0, 0, 0, 0, 0), refused},
		{small(0, 0, 1, 0, 0, 0, 1), refused},
		{small(1, 0, 0, 0, 0, 0, 1), refused},
		{small(0, 1, 0, 0, 0, 0, 1), refused},
		{small(0, 1, 1, 0, 0, 0, 1), refused},
		{small(1, 1, 1, 0, 0, 0, 1), refused},
		{small(1, 1, 2, 0, 0, 0, 0), okay(0, 0, sym(6, 0, 6))},
		{small(1, 1, 2, 0, 0, 0, 1), okay(0, 0, sym(10, -2, 9))},
		{small(-1, 0, -1, 0, 0, 0, 1), refused},
		{small(-1, 0, -1, 0, 0, 0, -1), refused},
		{small(-1, 0, 1, 0, 0, 0, 1), refused},
		{small(1, 0, -1, 0, 0, 0, 1), refused},
		{small(2, 3, 4, 0, 0, 0, 1), refused},
		{small(1, 0, 1, 0, 0, 0, -1), empty},
		{small(1, 0, 1, 3, 4, 25, -1), empty},
		{small(1, 0, 1, 3, 4, 25, 0), okay(3, 4, sym(6, 0, 6))},
		{small(1, 0, 1, 3, 4, 26, 0), empty},
		// Not positive, and nothing left.
		{small(0, 0, 0, 0, 0, 5, 0), refused},
		{small(1, 1, 1, 0, 0, 5, 0), refused},
		{small(-1, 0, -1, 0, 0, 5, 0), refused},
		// Not positive, and a centre and a matrix beyond the border.
		{inequality{of(-1), of(0), of(-1), of(mostPos + 1), of(0), of(0), of(0)}, refused},
		{inequality{of(-1), of(0), of(-1), of(0), of(0), of(0), power(46)}, refused},
		// Nothing left, and a centre beyond the border.
		{inequality{of(1), of(0), of(1), of(mostPos + 1), of(0), beside(far, 1), of(0)}, empty},
		{inequality{of(1), of(0), of(1), of(0), minus(power(100)), beside(power(200), 1), of(0)}, empty},
		// Over, and everything else.
		{inequality{huge, of(0), huge, of(0), of(0), of(0), of(1)}, over},
		{inequality{minus(huge), of(0), minus(huge), of(0), of(0), of(0), of(1)}, over},
		{inequality{of(0), huge, of(0), of(0), of(0), of(0), of(1)}, over},
		{inequality{of(0), of(0), of(0), huge, huge, of(5), of(0)}, over},
		{inequality{nil, nil, nil, nil, nil, nil, nil}, over},
	} {
		checkMade(t, "Ellipse", madeOf(info.Ellipse(x.i.info())), x.want, x.i)
	}
}

// TestP6_3_EllipseWithCoefficientsThatAreOver: they count ahead of all other faults.
func TestP6_3_EllipseWithCoefficientsThatAreOver(t *testing.T) {
	for k := range 7 {
		for _, i := range []inequality{
			small(1, 0, 1, 0, 0, 0, 1), small(0, 0, 0, 0, 0, 0, 0), small(-1, 0, -1, 0, 0, 0, 0), small(1, 0, 1, 0, 0, 0, -1), small(1, 0, 1, mostPos+1, 0, 0, 0),
		} {
			*i.fields()[k] = nil
			checkMade(t, "Ellipse", madeOf(info.Ellipse(i.info())), over, i)
		}
	}
}

// squareRoot is the root of n, rounded down.
func squareRoot(n *big.Int) *big.Int { return new(big.Int).Sqrt(n) }

// TestP6_3_EllipseAtTheLimitOfBits: the number at k is replaced by the one that is one
// farther from 0, which makes one of the numbers of step 1 over. Before that, a later
// step refuses it, or none.
func TestP6_3_EllipseAtTheLimitOfBits(t *testing.T) {
	const a, b, d, u, v, z, den = 0, 1, 2, 3, 4, 5, 6
	top := beside(power(mostBits), -1)
	root := squareRoot(top)
	fourth := squareRoot(root)
	below := func(k uint) number { return beside(power(k), -1) }
	none, one := of(0), of(1)
	for _, x := range []struct {
		i    inequality
		k    int
		want made
	}{
		// The square of d.
		{inequality{root, none, one, none, none, none, none}, a, okay(0, 0, sym(6, 0, 6))},
		{inequality{one, none, root, none, none, none, none}, d, okay(0, 0, sym(6, 0, 6))},
		{inequality{root, none, one, none, none, one, none}, a, empty},
		{inequality{minus(root), none, minus(one), none, none, none, none}, a, refused},
		{inequality{root, none, minus(one), none, none, none, none}, a, refused},
		{inequality{none, fourth, none, none, none, none, none}, b, refused},
		{inequality{none, minus(fourth), none, none, none, none, none}, b, refused},
		// R times D.
		{inequality{one, none, power(489), none, none, none, below(45)}, den, okay(0, 0, sym(35184386917939, 0, 2965827))},
		{inequality{one, none, power(489), none, none, none, minus(below(45))}, den, empty},
		{inequality{one, none, power(489), none, none, below(45), none}, z, empty},
		{inequality{minus(one), none, minus(power(489)), none, none, none, below(45)}, den, refused},
		// R times A.
		{inequality{power(489), none, one, none, none, none, below(45)}, den, okay(0, 0, sym(2965827, 0, 35184386917939))},
		{inequality{power(489), none, one, none, none, none, minus(below(45))}, den, empty},
		{inequality{power(489), none, one, none, none, below(45), none}, z, empty},
		{inequality{minus(power(489)), none, minus(one), none, none, none, below(45)}, den, refused},
		// R times B.
		{inequality{none, power(250), none, none, none, none, below(273)}, den, refused},
		{inequality{none, minus(power(250)), none, none, none, below(273), none}, z, refused},
		{inequality{one, power(250), none, none, none, none, below(273)}, den, refused},
		{inequality{none, power(250), one, none, none, none, below(273)}, den, refused},
		// Den - Z, which is a factor of R.
		{inequality{one, none, one, none, none, power(mostBits - 1), minus(below(mostBits - 1))}, den, empty},
		{inequality{one, none, one, none, none, power(mostBits - 1), minus(below(mostBits - 1))}, z, empty},
		{inequality{none, none, none, none, none, power(mostBits - 1), minus(below(mostBits - 1))}, den, refused},
		// The terms of R, each next to one that is not positive.
		{inequality{one, none, one, root, none, top, none}, u, empty},
		{inequality{one, none, one, minus(root), none, top, none}, u, empty},
		{inequality{one, none, one, none, root, top, none}, v, empty},
		{inequality{none, one, none, power(511), below(511), none, none}, v, refused},
		{inequality{none, minus(one), none, below(511), power(511), none, none}, u, refused},
		{inequality{none, one, none, root, none, none, none}, u, refused},
		{inequality{none, one, none, none, root, none, none}, v, refused},
		// R itself: the last number of it makes the sum too great.
		{inequality{one, none, minus(one), none, none, none, top}, den, refused},
		{inequality{one, none, one, one, none, none, minus(top)}, den, empty},
	} {
		checkMade(t, "Ellipse", madeOf(info.Ellipse(x.i.info())), x.want, x.i)
		checkEllipse(t, x.i)
		field := x.i.fields()[x.k]
		*field = beside(*field, int64((*field).Sign()))
		if (*field).BitLen() > mostBits {
			*field = nil
		}
		checkMade(t, "Ellipse", madeOf(info.Ellipse(x.i.info())), over, x.i)
		checkEllipse(t, x.i)
	}
}

// TestP6_3_EllipseContainsAllPointsOfAnInequality: even of one that is no mixture.
func TestP6_3_EllipseContainsAllPointsOfAnInequality(t *testing.T) {
	from := source(25)
	points := square(9)
	for range 1000 {
		a, d := 1+from.from0(20), 1+from.from0(20)
		b := from.to(squareRoot(of(a*d - 1)).Int64())
		i := small(a, b, d, from.to(30), from.to(30), from.to(100), from.to(100))
		asInfo := i.info()
		m := madeOf(info.Ellipse(asInfo))
		for _, p := range points {
			if info.In(asInfo, p) {
				checkContains(t, m, p, i)
			}
		}
		if m.errno == api.OK {
			checkReaches(t, m.e, i, &from)
		}
	}
}
