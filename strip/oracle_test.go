package strip_test

import (
	"math"
	"math/big"
	"math/bits"
	"testing"

	"alidade/api"
	"alidade/ellip"
	"alidade/golden"
	"alidade/strip"
)

const (
	mostPos   = 4194304
	mostRange = 4194304
	mostVar   = 70368744177664
	mostH     = 16777216
	mostLo    = 1125899906842624
)

func at(x, y int64) api.Point { return api.Point{X: x, Y: y} }

func sym(a, b, d int64) api.Sym { return api.Sym{A: a, B: b, D: d} }

func around(x, y int64, p api.Sym) api.Ellipse { return api.Ellipse{C: at(x, y), P: p} }

func trace(e api.Ellipse) int64 { return e.P.A + e.P.D }

// measured is what Ring and Update are asked for.
type measured struct {
	e, n   api.Ellipse
	lo, hi int64
}

func (m measured) ring() ringed { return ringedOf(strip.Ring(m.e, m.n, m.lo, m.hi)) }

func (m measured) update() made { return madeOf(strip.Update(m.e, m.n, m.lo, m.hi)) }

// ringed is what Ring returns.
type ringed struct {
	s     api.Strip
	errno api.Errno
}

func ringedOf(s api.Strip, errno api.Errno) ringed { return ringed{s, errno} }

var (
	noRing      = ringed{errno: api.ErrArg}
	aroundIt    = ringed{errno: api.ErrNone}
	outsideRing = ringed{errno: api.ErrEmpty}
)

func checkRinged(t *testing.T, got, want ringed, arguments ...any) {
	t.Helper()
	if got != want {
		t.Errorf("Ring(%v) = %v, want %v", arguments, got, want)
	}
}

// checkRing holds Ring against the document, and returns what it had to return.
func checkRing(t *testing.T, m measured) ringed {
	t.Helper()
	want := wantRing(m)
	checkRinged(t, m.ring(), want, m)
	return want
}

// made is what a call returns that makes an ellipse.
type made struct {
	e     api.Ellipse
	errno api.Errno
}

func madeOf(e api.Ellipse, errno api.Errno) made { return made{e, errno} }

func okay(x, y int64, p api.Sym) made { return made{around(x, y, p), api.OK} }

var (
	refused = made{errno: api.ErrArg}
	over    = made{errno: api.ErrOver}
	empty   = made{errno: api.ErrEmpty}
)

func checkMade(t *testing.T, call string, got, want made, arguments ...any) {
	t.Helper()
	if got != want {
		t.Errorf("%s(%v) = %v, want %v", call, arguments, got, want)
	}
}

// checkUpdate holds Update against the document, and returns the way that it had to take.
func checkUpdate(t *testing.T, m measured) string {
	t.Helper()
	want, way := wantUpdate(m)
	checkMade(t, "Update", m.update(), want, m)
	return way
}

type number = *big.Int

func of(n int64) number { return big.NewInt(n) }

func times(factors ...number) number {
	product := of(1)
	for _, n := range factors {
		product.Mul(product, n)
	}
	return product
}

func plus(a, b number) number { return new(big.Int).Add(a, b) }

func minus(a, b number) number { return new(big.Int).Sub(a, b) }

func rootDown(n number) number { return new(big.Int).Sqrt(n) }

// rootUp returns the least integer whose square is n or greater, for an n above 0.
func rootUp(n number) number { return plus(rootDown(minus(n, of(1))), of(1)) }

// reach returns the root, rounded up, of the quadratic form of p and h.
func reach(p api.Sym, h api.Point) number {
	x, y := of(h.X), of(h.Y)
	ends := plus(times(of(p.A), x, x), times(of(p.D), y, y))
	return rootUp(plus(ends, times(of(2), of(p.B), x, y)))
}

func radius(e api.Ellipse) int64 { return rootUp(of(trace(e))).Int64() }

// bounds are the numbers that a strip is chosen from.
type bounds struct {
	least, most   number // h - w and h + w
	inside        number // h * m^2 - k^2
	outer         number // the root of h * R^2, rounded up
	near, farther int64  // m and R
}

func boundsOf(m measured) bounds {
	r, h := radius(m.n), at(m.e.C.X-m.n.C.X, m.e.C.Y-m.n.C.Y)
	near, farther := max(m.lo-r, 0), m.hi+r
	square := plus(times(of(h.X), of(h.X)), times(of(h.Y), of(h.Y)))
	w, k := reach(m.e.P, h), reach(m.e.P, at(-h.Y, h.X))
	return bounds{
		least: minus(square, w), most: plus(square, w),
		inside: minus(times(square, of(near), of(near)), times(k, k)),
		outer:  rootUp(times(square, of(farther), of(farther))),
		near:   near, farther: farther,
	}
}

// lo and hi are what the document chooses of them.
func (b bounds) lo() int64 {
	if b.least.Sign() > 0 && b.inside.Sign() > 0 {
		return max(b.least.Int64(), rootDown(b.inside).Int64())
	}
	return b.least.Int64()
}

func (b bounds) hi() int64 { return min(b.most.Int64(), b.outer.Int64()) }

func isValid(m measured) bool {
	return ellip.May(m.e) && ellip.May(m.n) && m.lo >= 0 && m.lo <= m.hi && m.hi <= mostRange
}

func wantRing(m measured) ringed {
	if !isValid(m) {
		return noRing
	}
	if m.e.C == m.n.C {
		return aroundIt
	}
	b := boundsOf(m)
	lo, hi := b.lo(), b.hi()
	if hi < lo {
		return outsideRing
	}
	if hi == lo {
		hi = lo + 1
	}
	h := at(m.e.C.X-m.n.C.X, m.e.C.Y-m.n.C.Y)
	return ringed{api.Strip{O: m.n.C, H: h, Lo: lo, Hi: hi}, api.OK}
}

// wantUpdate also tells the way to the result: with a ball, or with none; then with a
// strip, or with none because both centres are the same. It ends with what was empty.
func wantUpdate(m measured) (made, string) {
	if !isValid(m) {
		return refused, "refused"
	}
	way := "no ball"
	if r := m.hi + radius(m.n); r <= mostRange {
		way = "ball"
		fused, errno := golden.Fuse(m.e, around(m.n.C.X, m.n.C.Y, sym(r*r, 0, r*r)))
		if errno == api.ErrEmpty {
			return empty, "ball is empty"
		}
		m.e = fused
	}
	ring := wantRing(m)
	switch ring.errno {
	case api.ErrNone:
		return made{m.e, api.OK}, way + ", no strip"
	case api.ErrEmpty:
		return empty, way + ", strip is empty"
	}
	cut, errno := golden.Cut(m.e, ring.s)
	if errno == api.ErrEmpty {
		return empty, way + ", cut is empty"
	}
	return made{cut, api.OK}, way + ", strip"
}

// contains reports whether the small ellipse e contains the near point p: P - x x' is
// positive semidefinite.
func contains(e api.Ellipse, p api.Point) bool { return holds(e.P, p.X-e.C.X, p.Y-e.C.Y) }

func holds(p api.Sym, x, y int64) bool {
	a, b, d := p.A-x*x, p.B-x*y, p.D-y*y
	return a >= 0 && d >= 0 && a*d >= b*b
}

// stripContains reports whether s contains p.
func stripContains(s api.Strip, p api.Point) bool {
	h := s.H.X*(p.X-s.O.X) + s.H.Y*(p.Y-s.O.Y)
	return s.Lo <= h && h <= s.Hi
}

// invalidEllipses are not valid by one of their numbers, or by their determinant.
func invalidEllipses() []api.Ellipse {
	invalid := []api.Ellipse{
		{},
		around(0, 0, sym(1, 1, 1)),
		around(0, 0, sym(4, -6, 9)),
		around(3, 4, sym(mostVar, mostVar, mostVar)),
		around(0, 0, sym(-4, 0, -4)),
		around(0, 0, sym(4, mostVar+1, 4)),
		around(math.MinInt64, math.MaxInt64, sym(math.MinInt64, math.MinInt64, math.MinInt64)),
		around(math.MaxInt64, math.MinInt64, sym(math.MaxInt64, math.MaxInt64, math.MaxInt64)),
	}
	for _, n := range []int64{0, -1, mostVar + 1, math.MinInt64, math.MaxInt64} {
		invalid = append(invalid, around(0, 0, sym(n, 0, 5)), around(0, 0, sym(5, 0, n)))
	}
	for _, n := range []int64{mostPos + 1, -mostPos - 1, math.MinInt64, math.MaxInt64} {
		invalid = append(invalid, around(n, 0, sym(4, 1, 4)), around(0, n, sym(4, 1, 4)))
	}
	return invalid
}

// limitEllipses have numbers at the limits.
func limitEllipses() []api.Ellipse {
	var limit []api.Ellipse
	for _, c := range []api.Point{at(0, 0), at(1, 0), at(mostPos, mostPos), at(-mostPos, -mostPos), at(mostPos, -mostPos), at(-mostPos, 7)} {
		for _, p := range []api.Sym{
			sym(1, 0, 1), sym(mostVar, 0, mostVar), sym(mostVar, mostVar-1, mostVar), sym(mostVar, 1-mostVar, mostVar),
			sym(mostVar, 0, 1), sym(1, 0, mostVar), sym(1<<42, 1<<41, 1<<43),
		} {
			limit = append(limit, api.Ellipse{C: c, P: p})
		}
	}
	return limit
}

type distance struct{ lo, hi int64 }

// invalidDistances are not valid by one of their numbers, or by their order.
func invalidDistances() []distance {
	return []distance{
		{-1, 5}, {-1, -1}, {-5, 0}, {math.MinInt64, 5}, {math.MinInt64, math.MinInt64}, {math.MinInt64, math.MaxInt64},
		{6, 5}, {1, 0}, {mostRange, mostRange - 1}, {math.MaxInt64, 0}, {math.MaxInt64, math.MinInt64},
		{5, mostRange + 1}, {mostRange + 1, mostRange + 1}, {mostRange + 1, mostRange}, {0, math.MaxInt64}, {math.MaxInt64, math.MaxInt64},
	}
}

// limitDistances are at the limits.
func limitDistances() []distance {
	return []distance{
		{0, 0}, {0, 1}, {1, 1}, {0, mostRange}, {1, mostRange}, {mostRange, mostRange}, {mostRange - 1, mostRange}, {mostRange - 1, mostRange - 1},
		{0, mostRange - 2}, {mostRange - 2, mostRange - 2}, {mostRange / 2, mostRange/2 + 1}, {mostRange / 3, mostRange},
	}
}

// source makes the same numbers in each run (splitmix64).
type source uint64

func (s *source) word() uint64 {
	*s += 0x9e3779b97f4a7c15
	x := uint64(*s)
	x = (x ^ x>>30) * 0xbf58476d1ce4e5b9
	x = (x ^ x>>27) * 0x94d049bb133111eb
	return x ^ x>>31
}

// below returns a number from 0 to n - 1.
func (s *source) below(n int) int { return int(s.word() % uint64(n)) }

// to returns a number of any length from -n to n; n is below 2^62.
func (s *source) to(n int64) int64 {
	shift := s.below(max(bits.Len64(uint64(n)), 1))
	return int64(s.word()>>1) % (n>>shift + 1) * (1 - 2*int64(s.word()%2))
}

// from1 returns a number of any length from 1 to n.
func (s *source) from1(n int64) int64 { return 1 + max(s.to(n-1), 0) }

// evenly returns a number from -n to n, each as often as the others.
func (s *source) evenly(n int64) int64 { return int64(s.below(int(2*n+1))) - n }

// matrix returns a valid one of numbers up to most; every third is as thin as its A and D
// allow.
func (s *source) matrix(most int64) api.Sym {
	a, d := s.from1(most), s.from1(most)
	b := greatestB(a, d)
	if s.below(3) > 0 {
		b = s.to(b)
	}
	return sym(a, b*(1-2*int64(s.below(2))), d)
}

// greatestB is the greatest B that is valid with a and d, or one beside it.
func greatestB(a, d int64) int64 {
	b := int64(math.Sqrt(float64(a)) * math.Sqrt(float64(d)))
	for !ellip.May(around(0, 0, sym(a, b, d))) {
		b--
	}
	return b
}

// measured returns a distance that is about that of e and n, whose centres are up to far
// from each other, or the same.
func (s *source) measured(far, most int64) measured {
	n := around(s.evenly(mostPos-far), s.evenly(mostPos-far), s.matrix(most))
	e := around(n.C.X+s.evenly(far), n.C.Y+s.evenly(far), s.matrix(most))
	if s.below(20) == 0 {
		e.C = n.C
	}
	d := int64(math.Hypot(float64(e.C.X-n.C.X), float64(e.C.Y-n.C.Y)))
	off := 2*radius(e) + radius(n)
	if s.below(2) == 0 {
		off = s.evenly(off)
	} else {
		off = s.to(off)
	}
	lo := min(max(d+off, 0), mostRange)
	return measured{e, n, lo, min(lo+max(s.to(far), 0), mostRange)}
}

// inside returns a vector of integers that the ellipse of p around 0 contains, often at
// its border.
func (s *source) inside(p api.Sym) api.Point {
	x, y := rootDown(of(p.A)).Int64(), rootDown(of(p.D)).Int64()
	for {
		v := at(s.evenly(x), s.evenly(y))
		if ellip.In(api.Ellipse{P: p}, v) {
			return v
		}
		x, y = x-x/8, y-y/8
		if x+y < 16 { // a thin one may contain 0 only
			x, y = x/2, y/2
		}
	}
}
