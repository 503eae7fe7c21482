package info_test

import (
	"math"
	"math/big"
	"testing"

	"alidade/api"
	"alidade/ellip"
	"alidade/info"
	"alidade/wide"
)

func checkOf(t *testing.T, e api.Ellipse) {
	t.Helper()
	want := ""
	if mayBe(e) {
		want = ofEllipse(e).String()
	}
	got, errno := info.Of(e)
	checkInfo(t, "Of", got, errno, want, e)
}

func TestP6_1_Of(t *testing.T) {
	for _, e := range append(atMost(5, at(-7, 3)), limitEllipses()...) {
		checkOf(t, e)
	}
	from := source(1)
	for range 5000 {
		checkOf(t, from.ellipse(mostVar))
	}
}

func TestP6_1_OfOfExamples(t *testing.T) {
	for _, x := range []struct {
		e    api.Ellipse
		want string
	}{
		{around(0, 0, sym(1, 0, 1)), "1 0 1 0 0 0 1"},
		{around(1, 2, sym(16, 0, 9)), "9 0 10 9 20 49 90"},
		{around(2, 3, sym(25, 12, 10)), "a -c 19 -10 33 79 6a"},
		{around(-7, 5, sym(25, -12, 10)), "a c 19 -a 29 113 6a"},
		{around(10, -20, sym(4, 1, 4)), "4 -1 4 3c -5a 960 f"},
		{around(mostPos, -mostPos, sym(mostVar, mostVar-1, mostVar)), "400000000000 -3fffffffffff 400000000000 1fffffffffffc00000 -1fffffffffffc00000 fffffffffffe00000000000 7fffffffffff"},
		{around(-mostPos, -mostPos, sym(mostVar, 1-mostVar, mostVar)), "400000000000 3fffffffffff 400000000000 -1fffffffffffc00000 -1fffffffffffc00000 fffffffffffe00000000000 7fffffffffff"},
		{around(-mostPos, mostPos, sym(1, -8388607, mostVar)), "400000000000 7fffff 1 -fffffe00000400000 -1fffff800000 3fffff00000300000000000 ffffff"},
	} {
		got, errno := info.Of(x.e)
		checkInfo(t, "Of", got, errno, x.want, x.e)
	}
}

func TestP6_1_OfOfInvalidEllipses(t *testing.T) {
	for _, e := range invalidEllipses() {
		got, errno := info.Of(e)
		checkInfo(t, "Of", got, errno, "", e)
	}
}

// TestP6_1_OfHoldsForThePointsOfTheEllipse, and for no others.
func TestP6_1_OfHoldsForThePointsOfTheEllipse(t *testing.T) {
	for _, e := range atMost(5, at(1, -2)) {
		i, _ := info.Of(e)
		for _, p := range square(6) {
			checkBool(t, "In", info.In(i, p), contains(e, p), e, p)
		}
	}
	from := source(2)
	for range 2000 {
		e := from.ellipse(mostVar)
		i, _ := info.Of(e)
		checkBool(t, "In", info.In(i, e.C), true, e)
		for range 10 {
			offset := from.point(1 << 23)
			p := at(e.C.X+offset.X, e.C.Y+offset.Y)
			checkBool(t, "In", info.In(i, p), ellip.In(e, p), e, p)
		}
	}
}

func checkStrip(t *testing.T, s api.Strip) {
	t.Helper()
	want := ""
	if mayBeStrip(s) {
		want = ofStrip(s).String()
	}
	checkBool(t, "MayStrip", info.MayStrip(s), want != "", s)
	got, errno := info.OfStrip(s)
	checkInfo(t, "OfStrip", got, errno, want, s)
}

func TestP6_1_Strips(t *testing.T) {
	for _, s := range limitStrips() {
		checkBool(t, "MayStrip", info.MayStrip(s), true, s)
		checkStrip(t, s)
	}
	from := source(3)
	for range 5000 {
		checkStrip(t, from.strip())
	}
}

// TestP6_1_StripsAtTheLimits: each number on both sides of its limit, alone and with
// others.
func TestP6_1_StripsAtTheLimits(t *testing.T) {
	positions := []int64{-mostPos - 1, -mostPos, 1 - mostPos, 0, mostPos - 1, mostPos, mostPos + 1}
	directions := []int64{-mostH - 1, -mostH, 1 - mostH, -1, 0, 1, mostH - 1, mostH, mostH + 1}
	bounds := []int64{-mostLo - 1, -mostLo, 1 - mostLo, -1, 0, 1, mostLo - 1, mostLo, mostLo + 1}
	for _, x := range positions {
		for _, y := range positions {
			checkStrip(t, api.Strip{O: at(x, y), H: at(3, -4), Lo: -5, Hi: 8})
			checkStrip(t, api.Strip{O: at(x, y), H: at(mostH, -mostH), Lo: -mostLo, Hi: mostLo})
		}
	}
	for _, x := range directions {
		for _, y := range directions {
			checkStrip(t, api.Strip{O: at(1, 2), H: at(x, y), Lo: -5, Hi: 8})
			checkStrip(t, api.Strip{O: at(mostPos, -mostPos), H: at(x, y), Lo: mostLo - 1, Hi: mostLo})
		}
	}
	for _, lo := range bounds {
		for _, hi := range bounds {
			checkStrip(t, api.Strip{O: at(1, 2), H: at(3, -4), Lo: lo, Hi: hi})
			checkStrip(t, api.Strip{O: at(-mostPos, mostPos), H: at(-mostH, 0), Lo: lo, Hi: hi})
		}
	}
}

func TestP6_1_InvalidStrips(t *testing.T) {
	for _, s := range invalidStrips() {
		checkBool(t, "MayStrip", info.MayStrip(s), false, s)
		got, errno := info.OfStrip(s)
		checkInfo(t, "OfStrip", got, errno, "", s)
	}
}

func TestP6_1_OfStripOfExamples(t *testing.T) {
	for _, x := range []struct {
		s    api.Strip
		want string
	}{
		{api.Strip{H: at(1, 0), Lo: 0, Hi: 1}, "4 0 0 2 0 1 1"},
		{api.Strip{H: at(0, -1), Lo: -1, Hi: 0}, "0 0 4 0 2 1 1"},
		{api.Strip{O: at(1, 2), H: at(3, -4), Lo: -5, Hi: 8}, "24 -30 40 -2a 38 31 a9"},
		{api.Strip{O: at(-10, 7), H: at(-2, 5), Lo: 100, Hi: 103}, "10 -28 64 -4e4 c3a 17eb1 9"},
		{api.Strip{O: at(mostPos, -mostPos), H: at(mostH, -mostH), Lo: -mostLo, Hi: mostLo}, "4000000000000 -4000000000000 4000000000000 2000000000000000000 -2000000000000000000 1000000000000000000000000 40000000000000000000000000"},
		{api.Strip{O: at(-mostPos, -mostPos), H: at(-mostH, -mostH), Lo: mostLo - 1, Hi: mostLo}, "4000000000000 4000000000000 4000000000000 -11fffffffffffe000000 -11fffffffffffe000000 50ffffffffffee000000000001 1"},
		{api.Strip{O: at(mostPos, mostPos), H: at(-mostH, -mostH), Lo: -mostLo, Hi: 1 - mostLo}, "4000000000000 4000000000000 4000000000000 11fffffffffffe000000 11fffffffffffe000000 50ffffffffffee000000000001 1"},
	} {
		got, errno := info.OfStrip(x.s)
		checkInfo(t, "OfStrip", got, errno, x.want, x.s)
	}
}

// TestP6_1_OfStripHoldsForThePointsOfTheStrip, and for no others.
func TestP6_1_OfStripHoldsForThePointsOfTheStrip(t *testing.T) {
	from := source(4)
	for range 300 {
		s := api.Strip{O: from.point(5), H: from.point(6), Lo: from.to(30)}
		s.Hi = s.Lo + 1 + from.from0(30)
		if !mayBeStrip(s) {
			continue
		}
		i, _ := info.OfStrip(s)
		for _, p := range square(8) {
			checkBool(t, "In", info.In(i, p), stripContains(s, p), s, p)
		}
	}
	in := 0
	for range 10000 {
		s, p := from.strip(), from.point(farthest)
		i, _ := info.OfStrip(s)
		checkBool(t, "In", info.In(i, p), stripContains(s, p), s, p)
		if stripContains(s, p) {
			in++
		}
	}
	if in < 1000 || in > 9000 {
		t.Errorf("%d of 10000 points are in", in)
	}
}

// TestP6_1_OfStripAtTheBorder: H . (x - O) may be both Lo and Hi, and not beyond.
func TestP6_1_OfStripAtTheBorder(t *testing.T) {
	from := source(5)
	for range 2000 {
		s, p := from.strip(), from.point(mostPos)
		h := along(s, p).Int64()
		for _, n := range []int64{-1, 0, 1} {
			for _, bounds := range [][2]int64{{h + n, h + n + 1 + from.from0(1<<20)}, {h + n - 1 - from.from0(1<<20), h + n}} {
				s.Lo, s.Hi = bounds[0], bounds[1]
				i, errno := info.OfStrip(s)
				if errno != api.OK {
					t.Fatalf("OfStrip(%v) = %v", s, errno)
				}
				checkBool(t, "In", info.In(i, p), stripContains(s, p), s, p)
			}
		}
	}
}

// checkMix holds Mix with the weight w, and with the other weight the other way round,
// against the document.
func checkMix(t *testing.T, i, j inequality, w int) {
	t.Helper()
	want := mixed(i, j, w).String()
	got, errno := info.Mix(i.info(), j.info(), w)
	checkInfo(t, "Mix", got, errno, want, i, j, w)
	got, errno = info.Mix(j.info(), i.info(), weights-w)
	checkInfo(t, "Mix", got, errno, mixed(j, i, weights-w).String(), j, i, weights-w)
}

func TestP6_2_Mix(t *testing.T) {
	from := source(6)
	for w := range weights + 1 {
		for _, bits := range []int{3, 60, 90, 200, 500, 507, 508, 509, 510, 511, 512, 600} {
			for range 10 {
				checkMix(t, from.inequality(bits), from.inequality(bits), w)
				checkMix(t, from.inequality(bits), from.inequality(1018-bits), w)
			}
		}
	}
}

func TestP6_2_MixOfExamples(t *testing.T) {
	i, j := small(1, -2, 3, -4, 5, 6, 7), small(10, 11, -12, 13, -14, 15, 9)
	for w, want := range map[int]string{
		0:  "94c a3a -b28 c16 -d04 df2 85e",
		1:  "90f 9db -ab9 b97 -c75 dbf 85e",
		17: "53f 3eb -3c9 3a7 -385 a8f 85e",
		33: "16f -205 327 -449 56b 75f 85e",
		34: "132 -264 396 -4c8 5fa 72c 85e",
	} {
		got, errno := info.Mix(i.info(), j.info(), w)
		checkInfo(t, "Mix", got, errno, want, w)
	}
}

func TestP6_2_MixWithInvalidWeights(t *testing.T) {
	i, j := small(1, -2, 3, -4, 5, 6, 7), small(10, 11, -12, 13, -14, 15, 9)
	for _, w := range []int{-1, weights + 1, -2, -weights, 2 * weights, 1 << 32, 1<<32 + 17, math.MinInt64, math.MaxInt64} {
		for _, j := range []inequality{j, {i.a, i.b, i.d, i.u, i.v, i.z, nil}, {nil, nil, nil, nil, nil, nil, nil}} {
			got, errno := info.Mix(i.info(), j.info(), w)
			checkInfo(t, "Mix", got, errno, "", w)
		}
	}
}

// TestP6_2_MixWithCoefficientsThatAreOver: not even a weight of 0 ends that.
func TestP6_2_MixWithCoefficientsThatAreOver(t *testing.T) {
	j := small(10, 11, -12, 13, -14, 15, 9)
	for k := range 7 {
		i := small(1, -2, 3, -4, 5, 6, 7)
		*i.fields()[k] = nil
		for _, w := range []int{0, 1, 17, 33, 34} {
			checkMix(t, i, j, w)
			checkMix(t, i, small(0, 0, 0, 0, 0, 0, 0), w)
			checkMix(t, i, i, w)
		}
	}
}

// TestP6_2_MixAtTheLimitOfBits: products and sums that are just over, or just not. The
// products are taken in the order of the document, which tells for a factor of 0.
func TestP6_2_MixAtTheLimitOfBits(t *testing.T) {
	top := beside(power(mostBits), -1)
	numbers := []number{of(0), of(1), of(-1), of(2), power(511), power(512), power(1022), top, negative(top), power(1017), power(1018),
		quotientBelow(top, of(34)), beside(quotientBelow(top, of(34)), 1), quotientBelow(top, of(33)), beside(quotientBelow(top, of(33)), 1), quotientBelow(top, of(17)), negative(quotientBelow(top, of(17)))}
	for _, a := range numbers {
		for _, den := range numbers {
			i := inequality{a, of(1), of(2), minus(a), of(3), of(-1), den}
			for _, b := range numbers {
				for _, w := range []int{0, 1, 2, 17, 33, 34} {
					checkMix(t, i, inequality{b, of(1), of(0), b, a, of(1), of(1)}, w)
				}
			}
			checkMix(t, i, inequality{a, of(1), of(2), a, of(1), of(-1), of(0)}, 17)
		}
	}
}

// TestP6_2_MixHoldsWhereBothHold, for inequalities whose Den is positive.
func TestP6_2_MixHoldsWhereBothHold(t *testing.T) {
	from := source(7)
	both := 0
	for range 1000 {
		i, j := from.inequality(5), from.inequality(5)
		i.den, j.den = of(1+from.from0(200)), of(1+from.from0(200))
		w := from.below(weights + 1)
		mix, _ := info.Mix(i.info(), j.info(), w)
		for _, p := range square(3) {
			if holds(i, p) && holds(j, p) {
				both++
				checkBool(t, "In", info.In(mix, p), true, i, j, w, p)
			}
		}
	}
	if both < 1000 {
		t.Errorf("both hold for only %d points", both)
	}
}

func checkIn(t *testing.T, i inequality, p api.Point) {
	t.Helper()
	checkBool(t, "In", info.In(i.info(), p), holds(i, p), i, p)
}

func TestP6_2_In(t *testing.T) {
	from := source(8)
	for range 200 {
		i := from.inequality(6)
		for _, p := range square(5) {
			checkIn(t, i, p)
		}
	}
	for range 2000 {
		for _, bits := range []int{10, 100, 900, 961, 963, 990, 1022, mostBits} {
			checkIn(t, from.inequality(bits), from.point(farthest))
		}
	}
}

// TestP6_2_InAtTheBorder: the left side may be equal to Den.
func TestP6_2_InAtTheBorder(t *testing.T) {
	from := source(9)
	for range 2000 {
		i, p := from.inequality(1+from.below(900)), from.point(farthest)
		x, y := of(p.X), of(p.Y)
		left := sum(times(i.a, x, x), times(i.d, y, y), times(of(2), i.b, x, y), times(of(-2), i.u, x), times(of(-2), i.v, y), i.z)
		for _, x := range []struct {
			beside int64
			want   bool
		}{{-1, false}, {0, true}, {1, true}} {
			i.den = beside(left, x.beside)
			checkBool(t, "In", info.In(i.info(), p), x.want, i, p)
		}
	}
}

func TestP6_2_InOfExamples(t *testing.T) {
	for _, x := range []struct {
		i    inequality
		p    api.Point
		want bool
	}{
		{small(0, 0, 0, 0, 0, 0, 0), at(5, 5), true},
		{small(0, 0, 0, 0, 0, 1, 0), at(5, 5), false},
		{small(0, 0, 0, 0, 0, 0, -1), at(0, 0), false},
		{small(1, 0, 0, 0, 0, 0, 9), at(-3, 100), true},
		{small(1, 0, 0, 0, 0, 0, 8), at(3, 100), false},
		{small(0, 0, 1, 0, 0, 0, 9), at(100, 3), true},
		{small(0, 0, 1, 0, 0, 0, 8), at(100, -3), false},
		{small(0, 1, 0, 0, 0, 0, 12), at(2, 3), true},
		{small(0, 1, 0, 0, 0, 0, 11), at(-2, -3), false},
		{small(0, 1, 0, 0, 0, 0, -12), at(-2, 3), true},
		{small(0, 0, 0, 1, 0, 0, -6), at(3, 50), true},
		{small(0, 0, 0, 1, 0, 0, -7), at(3, 50), false},
		{small(0, 0, 0, 0, -1, 0, 6), at(50, 3), true},
		{small(0, 0, 0, 0, -1, 0, 5), at(50, 3), false},
		{small(10, -12, 25, -16, 51, 121, 106), at(2, 3), true},
		{small(10, -12, 25, -16, 51, 121, 106), at(6, 6), true},
		{small(10, -12, 25, -16, 51, 121, 106), at(6, 7), false},
		{small(10, -12, 25, -16, 51, 121, 106), at(7, 5), false},
	} {
		checkBool(t, "In", info.In(x.i.info(), x.p), x.want, x.i, x.p)
	}
}

// TestP6_2_InAtTheFarthestPoints: the first inequality holds everywhere. Each other one
// holds, and is not over, at the farthest points; the products of points that are much
// farther would wrap around.
func TestP6_2_InAtTheFarthestPoints(t *testing.T) {
	coordinates := []int64{
		0, 1, farthest - 1, farthest, farthest + 1, 1 - farthest, -farthest, -farthest - 1,
		1 << 31, 1 << 32, -1 << 32, 1 << 62, math.MinInt64, math.MaxInt64, math.MinInt64 + 1,
	}
	top := beside(power(mostBits), -1)
	for _, x := range coordinates {
		for _, y := range coordinates {
			p := at(x, y)
			near := isFrom(-farthest, x, farthest) && isFrom(-farthest, y, farthest)
			checkBool(t, "In", info.In(info.Info{}, p), near, p)
			for _, i := range []inequality{small(1, 0, 0, 0, 0, 0, 0), small(0, 1, 0, 0, 0, 0, 0), small(0, 0, 1, 0, 0, 0, 0), small(0, 0, 0, 1, 0, 0, 0), small(0, 0, 0, 0, 1, 0, 0), small(3, -2, 5, -7, 11, 13, 0)} {
				i.den = top
				checkBool(t, "In", info.In(i.info(), p), near, i, p)
			}
		}
	}
}

func TestP6_2_InWithCoefficientsThatAreOver(t *testing.T) {
	for k := range 7 {
		i := small(0, 0, 0, 0, 0, 0, 1)
		*i.fields()[k] = nil
		for _, p := range square(1) {
			checkBool(t, "In", info.In(i.info(), p), false, i, p)
		}
	}
}

// TestP6_2_InAtTheLimitOfBits: each inequality holds, but for what is over. The number
// at k is replaced by the one that is one farther from 0, which makes it over.
func TestP6_2_InAtTheLimitOfBits(t *testing.T) {
	const a, b, d, u, v, z = 0, 1, 2, 3, 4, 5
	top := beside(power(mostBits), -1)
	least := func(bits uint) number { return beside(negative(power(bits)), 1) }
	half := negative(power(mostBits - 1))
	zero := small(0, 0, 0, 0, 0, 0, 0)
	with := func(fields map[int]number) inequality {
		i := zero
		i.den = top
		for k, n := range fields {
			*i.fields()[k] = n
		}
		return i
	}
	for _, x := range []struct {
		p api.Point
		i inequality
		k int
	}{
		// Terms: X * X is 2^60, 2 * X * Y is 2^61, and 2 * X is 2^31.
		{at(farthest, 0), with(map[int]number{a: least(mostBits - 60)}), a},
		{at(0, -farthest), with(map[int]number{d: least(mostBits - 60)}), d},
		{at(farthest, farthest), with(map[int]number{b: least(mostBits - 61)}), b},
		{at(-farthest, farthest), with(map[int]number{b: beside(power(mostBits-61), -1)}), b},
		{at(farthest, 0), with(map[int]number{u: beside(power(mostBits-31), -1)}), u},
		{at(-farthest, 0), with(map[int]number{u: least(mostBits - 31)}), u},
		{at(0, farthest), with(map[int]number{v: beside(power(mostBits-31), -1)}), v},
		{at(1, 0), with(map[int]number{u: beside(power(mostBits-1), -1)}), u},
		{at(1, 1), with(map[int]number{b: least(mostBits - 1)}), b},
		// Partial sums, in the order A, D, B, U and V, Z: what comes later does not end that.
		{at(1, 1), with(map[int]number{a: half, d: beside(half, 1), z: power(mostBits - 1)}), d},
		{at(1, 1), with(map[int]number{a: half, d: beside(half, 1), b: power(mostBits - 2)}), a},
		{at(1, 1), with(map[int]number{d: half, b: negative(power(mostBits - 2)), a: of(1), z: power(mostBits - 1)}), b},
		{at(1, 1), with(map[int]number{a: half, b: negative(power(mostBits - 2)), d: of(1), u: negative(power(mostBits - 2))}), b},
		{at(1, 1), with(map[int]number{a: half, u: beside(power(mostBits-2), -1), d: of(-1), z: power(mostBits - 1)}), u},
		{at(1, 1), with(map[int]number{a: half, v: beside(power(mostBits-2), -1), d: of(-1), z: power(mostBits - 1)}), d},
		{at(1, 1), with(map[int]number{u: power(mostBits - 2), v: beside(power(mostBits-2), -1), a: power(mostBits - 1)}), v},
		{at(1, 1), with(map[int]number{a: half, z: beside(half, 1)}), z},
		{at(1, 1), with(map[int]number{d: half, z: beside(half, 1)}), z},
		{at(-1, 1), with(map[int]number{b: power(mostBits - 2), z: beside(half, 1)}), z},
		{at(1, 1), with(map[int]number{u: power(mostBits - 2), z: beside(half, 1)}), z},
	} {
		checkBool(t, "In", info.In(x.i.info(), x.p), true, x.i, x.p)
		checkIn(t, x.i, x.p)
		field := x.i.fields()[x.k]
		*field = beside(*field, int64((*field).Sign()))
		checkBool(t, "In", info.In(x.i.info(), x.p), false, x.i, x.p)
		checkIn(t, x.i, x.p)
	}
	// 2 * B is no term of the left side where X is 0, nor is B * X where Y is 0.
	i := with(map[int]number{b: negative(top)})
	for _, p := range []api.Point{at(0, 5), at(farthest, 0), at(0, 0)} {
		checkBool(t, "In", info.In(i.info(), p), true, i, p)
	}
}

func checkFuse(t *testing.T, e, f api.Ellipse, w int) {
	t.Helper()
	checkMade(t, "Fuse", madeOf(info.Fuse(e, f, w)), wantFuse(e, f, w), e, f, w)
}

func checkCut(t *testing.T, e api.Ellipse, s api.Strip, w int) {
	t.Helper()
	checkMade(t, "Cut", madeOf(info.Cut(e, s, w)), wantCut(e, s, w), e, s, w)
}

// allWeights are those that are valid, and others.
func allWeights() []int {
	all := []int{-1, weights + 1, -weights, 1 << 32, 1<<32 + 17, math.MinInt64, math.MaxInt64}
	for w := range weights + 1 {
		all = append(all, w)
	}
	return all
}

func TestP6_4_FuseAndCutWithAllWeights(t *testing.T) {
	from := source(10)
	for range 100 {
		e, f, s := from.ellipse(1<<44), from.ellipse(1<<44), from.strip()
		for _, w := range allWeights() {
			checkFuse(t, e, f, w)
			checkCut(t, e, s, w)
		}
	}
}

func TestP6_4_FuseOfSmallEllipses(t *testing.T) {
	w := 0
	for k, e := range atMost(3, at(4, -5)) {
		for _, c := range square(2) {
			for l, f := range atMost(3, at(4+c.X, c.Y-5)) {
				if (k+l)%2 > 0 {
					continue
				}
				w = (w + 1) % (weights + 1)
				checkFuse(t, e, f, w)
			}
		}
	}
}

func TestP6_4_CutOfSmallEllipses(t *testing.T) {
	w := 0
	for _, e := range atMost(3, at(4, -5)) {
		for _, h := range square(3) {
			for lo := int64(-10); lo <= 6; lo += 4 {
				for _, width := range []int64{0, 1, 10} {
					w = (w + 1) % (weights + 1)
					checkCut(t, e, api.Strip{O: at(3, -4), H: h, Lo: lo, Hi: lo + width}, w)
				}
			}
		}
	}
}

func TestP6_4_FuseAndCutAtTheLimits(t *testing.T) {
	for k, e := range limitEllipses() {
		for _, f := range limitEllipses() {
			for _, w := range []int{0, 1, 17, 34} {
				checkFuse(t, e, f, w)
			}
		}
		for _, s := range limitStrips() {
			checkCut(t, e, s, k%(weights+1))
			checkCut(t, e, s, 34)
		}
	}
}

// TestP6_4_FuseAndCutOfEllipsesThatMeet: what is cut and fused has points.
func TestP6_4_FuseAndCutOfEllipsesThatMeet(t *testing.T) {
	from := source(11)
	for range 5000 {
		e, f, s := from.meeting()
		w := from.below(weights + 1)
		checkFuse(t, e, f, w)
		checkCut(t, e, s, w)
	}
}

func TestP6_4_FuseOfExamples(t *testing.T) {
	a, b := around(-3, 0, sym(25, 0, 25)), around(3, 0, sym(25, 0, 25))
	c, d := around(2, 3, sym(25, 12, 10)), around(4, 1, sym(30, -7, 12))
	e, f := around(100, -50, sym(10000, 9000, 9000)), around(70, -80, sym(400, -100, 2500))
	g, h := around(1, 1, sym(1, 0, 1)), around(1, 1, sym(mostVar, mostVar-1, mostVar))
	for _, x := range []struct {
		e, f api.Ellipse
		w    int
		want made
	}{
		{a, b, 0, okay(3, 0, sym(40, 0, 40))}, {a, b, 1, okay(3, 0, sym(39, 0, 39))}, {a, b, 9, okay(1, 0, sym(32, 0, 32))},
		{a, b, 17, okay(0, 0, sym(29, 0, 29))}, {a, b, 33, okay(-3, 0, sym(39, 0, 39))}, {a, b, 34, okay(-3, 0, sym(40, 0, 40))},
		{a, b, -1, refused}, {a, b, 35, refused},
		{c, d, 0, okay(4, 1, sym(47, -9, 24))}, {c, d, 1, okay(4, 1, sym(42, -7, 23))}, {c, d, 9, okay(2, 2, sym(30, 1, 18))},
		{c, d, 17, okay(2, 3, sym(30, 5, 18))}, {c, d, 33, okay(2, 3, sym(41, 14, 22))}, {c, d, 34, okay(2, 3, sym(41, 15, 22))},
		{e, f, 0, okay(70, -80, sym(446, -104, 2624))}, {e, f, 9, okay(70, -78, sym(523, 158, 1800))}, {e, f, 25, okay(72, -76, sym(1163, 866, 1749))},
		{e, f, 33, okay(85, -63, sym(5298, 4652, 5080))}, {e, f, 34, okay(100, -50, sym(10218, 9130, 9204))},
		{g, h, 0, over}, {g, h, 1, okay(1, 1, sym(32, 20, 32))}, {g, h, 9, okay(1, 1, sym(12, 1, 12))}, {g, h, 34, okay(1, 1, sym(8, 0, 8))},
		{around(-30, 0, sym(25, 0, 25)), b, 17, empty}, {around(-30, 0, sym(25, 0, 25)), b, 0, okay(3, 0, sym(40, 0, 40))},
		{around(-30, 0, sym(25, 0, 25)), b, 35, refused},
	} {
		checkMade(t, "Fuse", madeOf(info.Fuse(x.e, x.f, x.w)), x.want, x.e, x.f, x.w)
	}
}

func TestP6_4_CutOfExamples(t *testing.T) {
	c, s := around(2, 3, sym(25, 12, 10)), api.Strip{O: at(1, 2), H: at(3, -4), Lo: -5, Hi: 8}
	e, u := around(100, -50, sym(10000, 9000, 9000)), api.Strip{O: at(70, -80), H: at(7, 24), Lo: -500, Hi: 900}
	g, v := around(5, 5, sym(1, 0, 1)), api.Strip{H: at(mostH, 0), Lo: -mostLo, Hi: mostLo}
	far := api.Strip{O: at(1, 2), H: at(3, -4), Lo: 100, Hi: 101}
	for _, x := range []struct {
		e    api.Ellipse
		s    api.Strip
		w    int
		want made
	}{
		{c, s, 0, refused}, {c, s, 1, okay(3, 3, sym(656, 472, 376))}, {c, s, 9, okay(3, 3, sym(92, 56, 54))},
		{c, s, 17, okay(2, 3, sym(57, 30, 34))}, {c, s, 33, okay(2, 3, sym(42, 15, 23))}, {c, s, 34, okay(2, 3, sym(41, 15, 22))},
		{c, s, -1, refused}, {c, s, 35, refused},
		{e, u, 0, refused}, {e, u, 1, okay(76, -73, sym(21126, -5441, 2349))}, {e, u, 9, okay(76, -73, sym(3040, 32, 913))},
		{e, u, 17, okay(77, -72, sym(2240, 633, 1096))}, {e, u, 33, okay(92, -58, sym(6952, 5945, 6088))}, {e, u, 34, okay(100, -50, sym(10218, 9130, 9204))},
		{g, v, 0, refused}, {g, v, 1, okay(5, 5, sym(51, 0, 51))}, {g, v, 17, okay(5, 5, sym(10, 0, 10))}, {g, v, 34, okay(5, 5, sym(8, 0, 8))},
		{c, far, 17, empty}, {c, far, 0, refused}, {c, far, 34, okay(2, 3, sym(41, 15, 22))}, {c, far, 35, refused},
		{around(0, 0, sym(mostVar, 0, mostVar)), s, 34, over}, {around(0, 0, sym(mostVar, 0, mostVar)), s, 35, refused},
	} {
		checkMade(t, "Cut", madeOf(info.Cut(x.e, x.s, x.w)), x.want, x.e, x.s, x.w)
	}
}

// TestP6_4_FuseAndCutOfInvalidEllipsesAndStrips: on either side, with valid and invalid
// ones on the other, and with weights that are not valid.
func TestP6_4_FuseAndCutOfInvalidEllipsesAndStrips(t *testing.T) {
	ellipses := append(invalidEllipses(), around(2, 3, sym(25, 12, 10)), around(0, 0, sym(mostVar, 0, mostVar)))
	strips := append(invalidStrips(), api.Strip{O: at(1, 2), H: at(3, -4), Lo: -5, Hi: 8})
	for _, w := range []int{-1, 0, 17, 34, 35} {
		for _, e := range invalidEllipses() {
			for _, f := range ellipses {
				checkMade(t, "Fuse", madeOf(info.Fuse(e, f, w)), refused, e, f, w)
				checkMade(t, "Fuse", madeOf(info.Fuse(f, e, w)), refused, f, e, w)
			}
			for _, s := range strips {
				checkMade(t, "Cut", madeOf(info.Cut(e, s, w)), refused, e, s, w)
			}
		}
		for _, s := range invalidStrips() {
			for _, e := range ellipses {
				checkMade(t, "Cut", madeOf(info.Cut(e, s, w)), refused, e, s, w)
			}
		}
	}
}

// checkContains holds that the ellipse that a call made contains p.
func checkContains(t *testing.T, m made, p api.Point, arguments ...any) {
	t.Helper()
	if m.errno != api.OK || !ellip.In(m.e, p) {
		t.Errorf("%v does not contain %v (made of %v)", m, p, arguments)
	}
}

// TestP6_5_FuseContainsWhatIsInBoth, for every weight.
func TestP6_5_FuseContainsWhatIsInBoth(t *testing.T) {
	from := source(12)
	for range 100 {
		e := api.Ellipse{C: from.point(3), P: from.ellipse(30).P}
		f := api.Ellipse{C: from.point(3), P: from.ellipse(30).P}
		for w := range weights + 1 {
			fused := madeOf(info.Fuse(e, f, w))
			for _, p := range square(8) {
				if contains(e, p) && contains(f, p) {
					checkContains(t, fused, p, e, f, w)
				}
			}
		}
	}
}

// TestP6_5_CutContainsWhatIsInBoth, for every weight but 0, with which a strip has no
// end.
func TestP6_5_CutContainsWhatIsInBoth(t *testing.T) {
	from := source(13)
	for range 100 {
		e := api.Ellipse{C: from.point(3), P: from.ellipse(30).P}
		s := api.Strip{O: from.point(3), H: at(1+from.from0(6), from.to(6)), Lo: from.to(20)}
		s.Hi = s.Lo + 1 + from.from0(20)
		for w := 1; w <= weights; w++ {
			cut := madeOf(info.Cut(e, s, w))
			for _, p := range square(8) {
				if contains(e, p) && stripContains(s, p) {
					checkContains(t, cut, p, e, s, w)
				}
			}
		}
	}
}

// meeting returns ellipses and a strip of all sizes that have a point in common, often
// at the border of each.
func (s *source) meeting() (e, f api.Ellipse, cutting api.Strip) {
	p := s.point(1 << 20)
	aroundPoint := func() api.Ellipse {
		made := s.ellipse(1 << 40)
		x, y := ellip.Hull(made)
		for {
			made.C = at(p.X+s.to(x), p.Y+s.to(y))
			if mayBe(made) && ellip.In(made, p) {
				return made
			}
			x, y = x-x/4, y-y/4
		}
	}
	cutting = s.strip()
	h := along(cutting, p).Int64()
	if cutting.Lo, cutting.Hi = h-s.from0(1<<20), h+s.from0(1<<20); cutting.Lo == cutting.Hi {
		cutting.Hi++
	}
	return aroundPoint(), aroundPoint(), cutting
}

// TestP6_5_FuseAndCutOfAllSizes: what is returned contains all that is in both, not only
// the integer points. An error is never ErrEmpty, and ErrArg only where a strip has no
// end.
func TestP6_5_FuseAndCutOfAllSizes(t *testing.T) {
	from := source(14)
	wholly := 0
	check := func(m made, i inequality, arguments ...any) {
		switch m.errno {
		case api.OK:
			wholly++
			checkReaches(t, m.e, i, &from)
		case api.ErrOver:
		default:
			t.Errorf("%v, made of %v", m, arguments)
		}
	}
	for range 2000 {
		e, f, s := from.meeting()
		w := 1 + from.below(weights)
		check(madeOf(info.Fuse(e, f, w)), mixed(ofEllipse(e), ofEllipse(f), w), e, f, w)
		check(madeOf(info.Cut(e, s, w)), mixed(ofEllipse(e), ofStrip(s), w), e, s, w)
	}
	if wholly < 3000 {
		t.Errorf("only %d ellipses were made", wholly)
	}
}

// checkReaches holds that e reaches at least as far as the points of i in all of some
// directions. Those reach from h.c - sqrt(q) to h.c + sqrt(q), where c is their centre;
// with the distance of both centres, e reaches by sqrt(p) >= distance + sqrt(q).
func checkReaches(t *testing.T, e api.Ellipse, i inequality, from *source) {
	t.Helper()
	x := exactlyOf(i)
	for _, h := range []api.Point{at(1, 0), at(0, 1), at(1, 1), at(1, -1), from.point(1 << 20), from.point(1 << 20)} {
		distance := new(big.Rat).Sub(along1(h, x.x, x.y, x.d), along1(h, of(e.C.X), of(e.C.Y), of(1)))
		distance.Abs(distance)
		p := quad(h, of(e.P.A), of(e.P.B), of(e.P.D), of(1))
		q := quad(h, x.newA, x.newB, x.newD, x.square)
		// sqrt(p) is at least distance + sqrt(q) if p - q - distance^2, which has to be
		// at least 2 * distance * sqrt(q), is so squared.
		square := new(big.Rat).Mul(distance, distance)
		rest := new(big.Rat).Sub(new(big.Rat).Sub(p, q), square)
		least := new(big.Rat).Mul(new(big.Rat).Mul(square, q), big.NewRat(4, 1))
		if rest.Sign() < 0 || new(big.Rat).Mul(rest, rest).Cmp(least) < 0 {
			t.Errorf("%v does not reach as far along %v as %s", e, h, i)
		}
	}
}

// along1 is (h.X * x + h.Y * y) / n.
func along1(h api.Point, x, y, n *big.Int) *big.Rat {
	return new(big.Rat).SetFrac(sum(times(of(h.X), x), times(of(h.Y), y)), n)
}

// quad is (a * h.X^2 + 2 * b * h.X * h.Y + d * h.Y^2) / n.
func quad(h api.Point, a, b, d, n *big.Int) *big.Rat {
	x, y := of(h.X), of(h.Y)
	return new(big.Rat).SetFrac(sum(times(a, x, x), times(of(2), b, x, y), times(d, y, y)), n)
}

// TestP6_5_AllThatIsCalculatedIsExact: for valid ellipses and strips, no number is over.
func TestP6_5_AllThatIsCalculatedIsExact(t *testing.T) {
	for _, e := range limitEllipses() {
		for _, s := range limitStrips() {
			if exactlyOf(mixed(ofEllipse(e), ofStrip(s), 17)).isOver() {
				t.Errorf("%v and %v are over", e, s)
			}
		}
		i, _ := info.Of(e)
		if got := wide.Bits(i.Z); got > 92 {
			t.Errorf("Z of %v has %d bits", e, got)
		}
	}
}
