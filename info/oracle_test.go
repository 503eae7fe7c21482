package info_test

import (
	"math"
	"math/big"
	"math/bits"
	"strings"
	"testing"

	"alidade/api"
	"alidade/info"
	"alidade/wide"
)

const (
	mostPos  = 4194304
	mostVar  = 70368744177664
	mostH    = 16777216
	mostLo   = 1125899906842624
	farthest = 1073741824
	weights  = 34
	mostBits = 1023
)

// number is an integer of at most mostBits bits, or nil: over.
type number = *big.Int

func limited(x *big.Int) number {
	if x.BitLen() > mostBits {
		return nil
	}
	return x
}

func of(n int64) number { return big.NewInt(n) }

// power is 2^k.
func power(k uint) *big.Int { return new(big.Int).Lsh(big.NewInt(1), k) }

// beside is n + k.
func beside(n *big.Int, k int64) *big.Int { return new(big.Int).Add(n, big.NewInt(k)) }

func negative(n *big.Int) *big.Int { return new(big.Int).Neg(n) }

func times(factors ...number) number {
	result := of(1)
	for _, n := range factors {
		if n == nil || result == nil {
			return nil
		}
		result = limited(new(big.Int).Mul(result, n))
	}
	return result
}

func sum(terms ...number) number {
	result := of(0)
	for _, n := range terms {
		if n == nil || result == nil {
			return nil
		}
		result = limited(new(big.Int).Add(result, n))
	}
	return result
}

func minus(n number) number { return times(of(-1), n) }

func wideOf(n number) wide.Int {
	if n == nil {
		return wide.Shift(wide.Of(1), 5000)
	}
	a, ok := wide.Parse(n.Text(16))
	if !ok {
		panic("no wide integer: " + n.Text(16))
	}
	return a
}

// inequality has the fields of an Info: A, B, D, U, V, Z and Den.
type inequality struct {
	a, b, d, u, v, z, den number
}

// small is the inequality with these numbers.
func small(a, b, d, u, v, z, den int64) inequality {
	return inequality{of(a), of(b), of(d), of(u), of(v), of(z), of(den)}
}

func (i inequality) info() info.Info {
	return info.Info{
		A: wideOf(i.a), B: wideOf(i.b), D: wideOf(i.d), U: wideOf(i.u), V: wideOf(i.v), Z: wideOf(i.z), Den: wideOf(i.den),
	}
}

// fields are the places of the numbers of i, so that each of them can be replaced.
func (i *inequality) fields() []*number {
	return []*number{&i.a, &i.b, &i.d, &i.u, &i.v, &i.z, &i.den}
}

func (i inequality) String() string {
	var texts []string
	for _, n := range i.fields() {
		if *n == nil {
			texts = append(texts, "over")
		} else {
			texts = append(texts, (*n).Text(16))
		}
	}
	return strings.Join(texts, " ")
}

func textOf(i info.Info) string {
	var texts []string
	for _, n := range []wide.Int{i.A, i.B, i.D, i.U, i.V, i.Z, i.Den} {
		texts = append(texts, wide.Text(n))
	}
	return strings.Join(texts, " ")
}

// checkInfo holds what a call returned that makes an Info against the text of what it
// has to return, or against ErrArg if that is empty.
func checkInfo(t *testing.T, call string, got info.Info, errno api.Errno, want string, arguments ...any) {
	t.Helper()
	if want == "" {
		if got != (info.Info{}) || errno != api.ErrArg {
			t.Errorf("%s(%v) = %s, %v, want ErrArg", call, arguments, textOf(got), errno)
		}
		return
	}
	if textOf(got) != want || errno != api.OK {
		t.Errorf("%s(%v) = %s, %v, want %s", call, arguments, textOf(got), errno, want)
	}
}

// made is what a call returns that makes an ellipse.
type made struct {
	e     api.Ellipse
	errno api.Errno
}

func madeOf(e api.Ellipse, errno api.Errno) made { return made{e, errno} }

var (
	refused = made{errno: api.ErrArg}
	over    = made{errno: api.ErrOver}
	empty   = made{errno: api.ErrEmpty}
)

func checkMade(t *testing.T, call string, got, want made, arguments ...any) {
	t.Helper()
	if got != want {
		t.Errorf("%s(%v) = %v, want %v", call, arguments, got, want)
	}
}

func checkBool(t *testing.T, call string, got, want bool, arguments ...any) {
	t.Helper()
	if got != want {
		t.Errorf("%s(%v) = %t, want %t", call, arguments, got, want)
	}
}

func at(x, y int64) api.Point { return api.Point{X: x, Y: y} }

func sym(a, b, d int64) api.Sym { return api.Sym{A: a, B: b, D: d} }

func around(x, y int64, p api.Sym) api.Ellipse { return api.Ellipse{C: at(x, y), P: p} }

func okay(x, y int64, p api.Sym) made { return made{around(x, y, p), api.OK} }

func isFrom(least, n, most int64) bool { return least <= n && n <= most }

func isWithin(p api.Point, most int64) bool {
	return isFrom(-most, p.X, most) && isFrom(-most, p.Y, most)
}

func det(m api.Sym) *big.Int {
	return sum(times(of(m.A), of(m.D)), minus(times(of(m.B), of(m.B))))
}

func mayBe(e api.Ellipse) bool {
	return isWithin(e.C, mostPos) &&
		isFrom(1, e.P.A, mostVar) && isFrom(-mostVar, e.P.B, mostVar) && isFrom(1, e.P.D, mostVar) &&
		det(e.P).Sign() > 0
}

func mayBeStrip(s api.Strip) bool {
	return isWithin(s.O, mostPos) && isWithin(s.H, mostH) && (s.H.X != 0 || s.H.Y != 0) &&
		isFrom(-mostLo, s.Lo, mostLo) && isFrom(-mostLo, s.Hi, mostLo) && s.Lo < s.Hi
}

// contains reports whether the small ellipse e contains the near point p: P - x x' is
// positive semidefinite.
func contains(e api.Ellipse, p api.Point) bool {
	x, y := p.X-e.C.X, p.Y-e.C.Y
	a, b, d := e.P.A-x*x, e.P.B-x*y, e.P.D-y*y
	return a >= 0 && d >= 0 && a*d >= b*b
}

// along is H . (p - O).
func along(s api.Strip, p api.Point) *big.Int {
	return sum(times(of(s.H.X), of(p.X-s.O.X)), times(of(s.H.Y), of(p.Y-s.O.Y)))
}

func stripContains(s api.Strip, p api.Point) bool {
	h := along(s, p)
	return of(s.Lo).Cmp(h) <= 0 && h.Cmp(of(s.Hi)) <= 0
}

// ofEllipse is what Of has to return for a valid e.
func ofEllipse(e api.Ellipse) inequality {
	a, b, d := of(e.P.D), of(-e.P.B), of(e.P.A)
	x, y := of(e.C.X), of(e.C.Y)
	u, v := sum(times(a, x), times(b, y)), sum(times(b, x), times(d, y))
	return inequality{a, b, d, u, v, sum(times(u, x), times(v, y)), det(e.P)}
}

// ofStrip is what OfStrip has to return for a valid s.
func ofStrip(s api.Strip) inequality {
	x, y := times(of(2), of(s.H.X)), times(of(2), of(s.H.Y))
	m := sum(of(s.Lo), of(s.Hi), times(x, of(s.O.X)), times(y, of(s.O.Y)))
	width := of(s.Hi - s.Lo)
	return inequality{times(x, x), times(x, y), times(y, y), times(m, x), times(m, y), times(m, m), times(width, width)}
}

// mixed is what Mix has to return for a w from 0 to weights.
func mixed(i, j inequality, w int) inequality {
	var all inequality
	ofI, ofJ, result := i.fields(), j.fields(), all.fields()
	for k := range 6 {
		first := times(*ofI[k], of(int64(w)), j.den)
		second := times(*ofJ[k], of(int64(weights-w)), i.den)
		*result[k] = sum(first, second)
	}
	all.den = times(of(weights), i.den, j.den)
	return all
}

// holds is what In has to return.
func holds(i inequality, p api.Point) bool {
	if !isWithin(p, farthest) {
		return false
	}
	x, y := of(p.X), of(p.Y)
	linear := times(sum(times(i.u, x), times(i.v, y)), of(-2))
	left := sum(times(i.a, times(x, x)), times(i.d, times(y, y)), times(i.b, times(of(2), x, y)), linear, i.z)
	return left != nil && i.den != nil && left.Cmp(i.den) <= 0
}

// quotientBelow is x / n, rounded down, for an n above 0.
func quotientBelow(x, n *big.Int) *big.Int { return new(big.Int).Div(x, n) }

// quotientAbove is x / n, rounded up, for an n above 0.
func quotientAbove(x, n *big.Int) *big.Int { return negative(quotientBelow(negative(x), n)) }

// nearest is x / n, rounded to the nearest integer, for an n above 0.
func nearest(x, n *big.Int) *big.Int {
	return quotientBelow(new(big.Int).Add(new(big.Int).Lsh(x, 1), n), new(big.Int).Lsh(n, 1))
}

// exactly are the numbers of P6.3: d, its square, R, the centre times d, and the matrix
// times the square of d.
type exactly struct {
	d, square, r     number
	x, y             number
	newA, newB, newD number
}

func exactlyOf(i inequality) exactly {
	d := sum(times(i.a, i.d), minus(times(i.b, i.b)))
	r := sum(
		times(sum(i.den, minus(i.z)), d),
		times(i.d, times(i.u, i.u)),
		minus(times(of(2), i.b, i.u, i.v)),
		times(i.a, times(i.v, i.v)),
	)
	return exactly{
		d, times(d, d), r,
		sum(times(i.d, i.u), minus(times(i.b, i.v))), sum(times(i.a, i.v), minus(times(i.b, i.u))),
		times(r, i.d), minus(times(r, i.b)), times(r, i.a),
	}
}

func (e exactly) isOver() bool {
	for _, n := range []number{e.d, e.square, e.r, e.x, e.y, e.newA, e.newB, e.newD} {
		if n == nil {
			return true
		}
	}
	return false
}

// wantEllipse is what Ellipse has to return.
func wantEllipse(i inequality) made {
	e := exactlyOf(i)
	for _, n := range i.fields() {
		if *n == nil {
			return over
		}
	}
	switch {
	case e.isOver():
		return over
	case i.a.Sign() <= 0 || e.d.Sign() <= 0:
		return refused
	case e.r.Sign() < 0:
		return empty
	}
	x, y := nearest(e.x, e.d), nearest(e.y, e.d)
	a, b, d := beside(quotientAbove(e.newA, e.square), 1), quotientBelow(e.newB, e.square), beside(quotientAbove(e.newD, e.square), 1)
	for _, n := range []*big.Int{x, y, a, b, d} {
		if !n.IsInt64() {
			return over
		}
	}
	return grownBy1(around(x.Int64(), y.Int64(), sym(a.Int64(), b.Int64(), d.Int64())))
}

// grownBy1 is the sum of an ellipse and the ball of radius 1 around 0, over if one of
// them is not valid. The radius of the ball is the square root of 2, rounded up: 2.
func grownBy1(e api.Ellipse) made {
	if !mayBe(e) {
		return over
	}
	trace := of(e.P.A + e.P.D)
	s := new(big.Int).Sqrt(trace)
	if times(s, s).Cmp(trace) != 0 {
		s = beside(s, 1)
	}
	whole := beside(s, 2)
	diagonal := func(n int64) int64 {
		return sum(quotientAbove(times(whole, of(n)), s), quotientAbove(whole, of(2)), of(2)).Int64()
	}
	b := quotientBelow(times(whole, of(e.P.B)), s).Int64()
	grown := api.Ellipse{C: e.C, P: sym(diagonal(e.P.A), b, diagonal(e.P.D))}
	if !mayBe(grown) {
		return over
	}
	return made{grown, api.OK}
}

func wantFuse(e, f api.Ellipse, w int) made {
	if !mayBe(e) || !mayBe(f) || w < 0 || w > weights {
		return refused
	}
	return wantEllipse(mixed(ofEllipse(e), ofEllipse(f), w))
}

func wantCut(e api.Ellipse, s api.Strip, w int) made {
	if !mayBe(e) || !mayBeStrip(s) || w < 0 || w > weights {
		return refused
	}
	return wantEllipse(mixed(ofEllipse(e), ofStrip(s), w))
}

// atMost are all valid ellipses around a centre whose numbers are at most n.
func atMost(n int64, centre api.Point) []api.Ellipse {
	var all []api.Ellipse
	for a := int64(1); a <= n; a++ {
		for d := int64(1); d <= n; d++ {
			for b := -n; b <= n; b++ {
				if e := (api.Ellipse{C: centre, P: sym(a, b, d)}); mayBe(e) {
					all = append(all, e)
				}
			}
		}
	}
	return all
}

// square are the points whose coordinates are from -n to n.
func square(n int64) []api.Point {
	var all []api.Point
	for x := -n; x <= n; x++ {
		for y := -n; y <= n; y++ {
			all = append(all, at(x, y))
		}
	}
	return all
}

// limitEllipses are valid; their centres and matrices are at the limits.
func limitEllipses() []api.Ellipse {
	var all []api.Ellipse
	for _, c := range []api.Point{at(0, 0), at(mostPos, -mostPos), at(-mostPos, mostPos), at(-1, mostPos), at(-mostPos, -mostPos)} {
		for _, p := range []api.Sym{
			sym(1, 0, 1), sym(2, 1, 1), sym(mostVar, 0, 1), sym(1, 0, mostVar), sym(mostVar, 0, mostVar),
			sym(mostVar, mostVar-1, mostVar), sym(mostVar, 1-mostVar, mostVar), sym(mostVar, 1<<23-1, 1), sym(1, 1-1<<23, mostVar),
			sym(1<<44, 1<<44-1, 1<<44), sym(1<<45, -1<<22, 1),
		} {
			all = append(all, api.Ellipse{C: c, P: p})
		}
	}
	return all
}

// limitStrips are valid; their numbers are at the limits.
func limitStrips() []api.Strip {
	var all []api.Strip
	for _, o := range []api.Point{at(0, 0), at(mostPos, mostPos), at(-mostPos, mostPos), at(3, -mostPos)} {
		for _, h := range []api.Point{at(1, 0), at(0, -1), at(mostH, -mostH), at(-mostH, -mostH), at(0, mostH), at(-mostH, 1), at(3, -4)} {
			for _, bounds := range [][2]int64{{-mostLo, mostLo}, {-mostLo, 1 - mostLo}, {mostLo - 1, mostLo}, {0, 1}, {-1, 0}, {-5, 8}, {0, mostLo}} {
				all = append(all, api.Strip{O: o, H: h, Lo: bounds[0], Hi: bounds[1]})
			}
		}
	}
	return all
}

// invalidEllipses are not valid by one of their numbers, or by their determinant.
func invalidEllipses() []api.Ellipse {
	all := []api.Ellipse{
		{},
		around(0, 0, sym(1, 1, 1)),
		around(0, 0, sym(4, -6, 9)),
		around(3, 4, sym(mostVar, mostVar, mostVar)),
		around(3, 4, sym(1, 1<<23, mostVar)),
		around(0, 0, sym(-4, 0, -4)),
		around(0, 0, sym(4, mostVar+1, 4)),
		around(0, 0, sym(4, math.MinInt64, 4)),
		around(math.MinInt64, math.MaxInt64, sym(math.MinInt64, math.MinInt64, math.MinInt64)),
		around(math.MaxInt64, math.MinInt64, sym(math.MaxInt64, math.MaxInt64, math.MaxInt64)),
	}
	for _, n := range []int64{0, -1, mostVar + 1, math.MinInt64, math.MaxInt64} {
		all = append(all, around(0, 0, sym(n, 0, 5)), around(0, 0, sym(5, 0, n)))
	}
	for _, n := range []int64{mostPos + 1, -mostPos - 1, math.MinInt64, math.MaxInt64} {
		all = append(all, around(n, 0, sym(4, 1, 4)), around(0, n, sym(4, 1, 4)))
	}
	return all
}

// invalidStrips are not valid by one of their numbers: each is one beyond a limit, far
// beyond it, or so far that what is calculated of it would wrap around to a valid one.
func invalidStrips() []api.Strip {
	all := []api.Strip{
		{},
		{Lo: -5, Hi: 8},
		{O: at(mostPos, mostPos), Lo: -mostLo, Hi: mostLo},
		{H: at(3, -4)},
		{H: at(3, -4), Lo: 1, Hi: 1},
		{H: at(3, -4), Lo: 2, Hi: 1},
		{H: at(3, -4), Lo: mostLo, Hi: mostLo},
		{H: at(3, -4), Lo: -mostLo, Hi: -mostLo},
		{H: at(3, -4), Lo: mostLo, Hi: -mostLo},
		{H: at(3, -4), Lo: math.MaxInt64, Hi: math.MinInt64},
		{H: at(3, -4), Lo: math.MinInt64, Hi: math.MaxInt64},
		{H: at(3, -4), Lo: -mostLo - 1, Hi: -mostLo},
		{H: at(3, -4), Lo: mostLo, Hi: mostLo + 1},
	}
	for _, n := range []int64{1, 5, 1 << 10, 1 << 40} {
		all = append(all,
			api.Strip{O: at(mostPos+n, 0), H: at(3, -4), Lo: -5, Hi: 8}, api.Strip{O: at(0, mostPos+n), H: at(3, -4), Lo: -5, Hi: 8},
			api.Strip{O: at(-mostPos-n, 0), H: at(3, -4), Lo: -5, Hi: 8}, api.Strip{O: at(0, -mostPos-n), H: at(3, -4), Lo: -5, Hi: 8},
			api.Strip{H: at(mostH+n, 0), Lo: -5, Hi: 8}, api.Strip{H: at(0, mostH+n), Lo: -5, Hi: 8},
			api.Strip{H: at(-mostH-n, 1), Lo: -5, Hi: 8}, api.Strip{H: at(1, -mostH-n), Lo: -5, Hi: 8},
			api.Strip{H: at(3, -4), Lo: -mostLo - n, Hi: 8}, api.Strip{H: at(3, -4), Lo: -5, Hi: mostLo + n},
		)
	}
	for _, n := range []int64{math.MinInt64, math.MaxInt64, math.MinInt64 / 2} {
		all = append(all,
			api.Strip{O: at(n, 0), H: at(3, -4), Lo: -5, Hi: 8}, api.Strip{O: at(0, n), H: at(3, -4), Lo: -5, Hi: 8},
			api.Strip{H: at(n, 0), Lo: -5, Hi: 8}, api.Strip{H: at(1, n), Lo: -5, Hi: 8},
			api.Strip{H: at(3, -4), Lo: n, Hi: n}, api.Strip{H: at(3, -4), Lo: n, Hi: 8}, api.Strip{H: at(3, -4), Lo: -5, Hi: n},
		)
	}
	return all
}

// source makes the same numbers in each run (splitmix64).
type source uint64

func (s *source) word() uint64 {
	*s += 0x9e3779b97f4a7c15
	x := uint64(*s)
	x = (x ^ x>>30) * 0xbf58476d1ce4e5b9
	x = (x ^ x>>27) * 0x94d049bb133111eb
	return x ^ x>>31
}

// below returns a number from 0 to n - 1.
func (s *source) below(n int) int { return int(s.word() % uint64(n)) }

// to returns a number of any length from -n to n; n is below 2^62.
func (s *source) to(n int64) int64 {
	shift := s.below(max(bits.Len64(uint64(n)), 1))
	return int64(s.word()>>1) % (n>>shift + 1) * (1 - 2*int64(s.word()%2))
}

// from0 returns a number of any length from 0 to n.
func (s *source) from0(n int64) int64 { return max(s.to(n), 0) }

func (s *source) point(most int64) api.Point { return at(s.to(most), s.to(most)) }

// ellipse returns a valid one whose A and D are at most most; every third is as thin
// as they allow.
func (s *source) ellipse(most int64) api.Ellipse {
	a, d := 1+s.from0(most-1), 1+s.from0(most-1)
	b := new(big.Int).Sqrt(beside(times(of(a), of(d)), -1)).Int64()
	if s.word()%3 > 0 {
		b = s.to(b)
	}
	return api.Ellipse{C: s.point(mostPos), P: sym(a, b, d)}
}

// strip returns a valid one.
func (s *source) strip() api.Strip {
	made := api.Strip{O: s.point(mostPos), H: s.point(mostH), Lo: s.to(mostLo), Hi: s.to(mostLo)}
	if made.Lo > made.Hi {
		made.Lo, made.Hi = made.Hi, made.Lo
	}
	if !mayBeStrip(made) {
		return s.strip()
	}
	return made
}

// number returns one of at most so many bits, of either sign, or 0.
func (s *source) number(length int) number {
	x := new(big.Int)
	words := (length + 63) / 64
	for range words {
		x.Or(x.Lsh(x, 64), new(big.Int).SetUint64(s.word()))
	}
	shorter := s.below(3) / 2 * s.below(length+1)
	x.Rsh(x, uint(words*64-length+shorter))
	if s.below(2) == 0 {
		x.Neg(x)
	}
	return x
}

// inequality returns one with numbers of so many bits.
func (s *source) inequality(length int) inequality {
	var i inequality
	for _, field := range i.fields() {
		*field = s.number(length)
	}
	return i
}
