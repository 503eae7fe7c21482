package grow_test

import (
	"math"
	"math/big"
	"testing"

	"alidade/api"
)

const (
	mostPos   = 4194304
	mostVar   = 70368744177664
	mostRange = 4194304
)

// made is what a call returns that makes an ellipse.
type made struct {
	e     api.Ellipse
	errno api.Errno
}

func madeOf(e api.Ellipse, errno api.Errno) made { return made{e, errno} }

var (
	refused = made{errno: api.ErrArg}
	over    = made{errno: api.ErrOver}
)

func checkMade(t *testing.T, call string, got, want made, arguments ...any) {
	t.Helper()
	if got != want {
		t.Errorf("%s(%v) = %v, want %v", call, arguments, got, want)
	}
}

func at(x, y int64) api.Point { return api.Point{X: x, Y: y} }

func sym(a, b, d int64) api.Sym { return api.Sym{A: a, B: b, D: d} }

func around(x, y int64, p api.Sym) api.Ellipse { return api.Ellipse{C: at(x, y), P: p} }

func plus(p, q api.Point) api.Point { return at(p.X+q.X, p.Y+q.Y) }

func isFrom(least, n, most int64) bool { return least <= n && n <= most }

func product(factors ...int64) *big.Int {
	result := big.NewInt(1)
	for _, n := range factors {
		result.Mul(result, big.NewInt(n))
	}
	return result
}

func total(terms ...*big.Int) *big.Int {
	result := new(big.Int)
	for _, n := range terms {
		result.Add(result, n)
	}
	return result
}

func difference(x, y *big.Int) *big.Int { return new(big.Int).Sub(x, y) }

// det is the determinant of the matrix with the rows a b and b d.
func det(a, b, d *big.Int) *big.Int {
	return difference(new(big.Int).Mul(a, d), new(big.Int).Mul(b, b))
}

func detOf(m api.Sym) *big.Int { return det(big.NewInt(m.A), big.NewInt(m.B), big.NewInt(m.D)) }

// quad is h' m h.
func quad(m api.Sym, h api.Point) *big.Int {
	return total(product(m.A, h.X, h.X), product(2, m.B, h.X, h.Y), product(m.D, h.Y, h.Y))
}

func mayBe(e api.Ellipse) bool {
	return isFrom(-mostPos, e.C.X, mostPos) && isFrom(-mostPos, e.C.Y, mostPos) &&
		isFrom(1, e.P.A, mostVar) && isFrom(-mostVar, e.P.B, mostVar) && isFrom(1, e.P.D, mostVar) &&
		detOf(e.P).Sign() > 0
}

// radius is the square root of the trace of e, rounded up.
func radius(e api.Ellipse) int64 {
	trace := big.NewInt(e.P.A + e.P.D)
	root := new(big.Int).Sqrt(trace).Int64()
	if product(root, root).Cmp(trace) != 0 {
		root++
	}
	return root
}

// quotientBelow is x / n, rounded down, for an n above 0.
func quotientBelow(x *big.Int, n int64) *big.Int { return new(big.Int).Div(x, big.NewInt(n)) }

// quotientAbove is x / n, rounded up, for an n above 0.
func quotientAbove(x *big.Int, n int64) *big.Int {
	return quotientBelow(total(x, big.NewInt(n-1)), n)
}

// wantSum is what Sum has to return. None of its numbers is beyond an int64.
func wantSum(e, f api.Ellipse) made {
	if !mayBe(e) || !mayBe(f) {
		return refused
	}
	s, t := radius(e), radius(f)
	diagonal := func(m, n int64) int64 {
		return total(quotientAbove(product(s+t, m), s), quotientAbove(product(s+t, n), t), big.NewInt(2)).Int64()
	}
	b := total(quotientBelow(product(s+t, e.P.B), s), quotientBelow(product(s+t, f.P.B), t)).Int64()
	sum := api.Ellipse{C: plus(e.C, f.C), P: sym(diagonal(e.P.A, f.P.A), b, diagonal(e.P.D, f.P.D))}
	if !mayBe(sum) {
		return over
	}
	return made{sum, api.OK}
}

// wantBall is what Ball has to return.
func wantBall(e api.Ellipse, r int64) made {
	if !mayBe(e) || !isFrom(0, r, mostRange) {
		return refused
	}
	if r == 0 {
		return made{e, api.OK}
	}
	return wantSum(e, around(0, 0, sym(r*r, 0, r*r)))
}

// wantAge is what Age has to return.
func wantAge(e api.Ellipse, speed, ticks int64) made {
	if !mayBe(e) || speed < 0 || ticks < 0 {
		return refused
	}
	r := product(speed, ticks)
	if r.Cmp(big.NewInt(mostRange)) > 0 {
		return over
	}
	return wantBall(e, r.Int64())
}

// atMost are all valid ellipses around a centre whose numbers are at most n.
func atMost(n int64, centre api.Point) []api.Ellipse {
	var all []api.Ellipse
	for a := int64(1); a <= n; a++ {
		for d := int64(1); d <= n; d++ {
			for b := -n; b <= n; b++ {
				if e := (api.Ellipse{C: centre, P: sym(a, b, d)}); mayBe(e) {
					all = append(all, e)
				}
			}
		}
	}
	return all
}

// limitEllipses are valid; their centres and matrices are at the limits.
func limitEllipses() []api.Ellipse {
	var all []api.Ellipse
	for _, c := range []api.Point{at(0, 0), at(mostPos, -mostPos), at(-mostPos, mostPos), at(-1, mostPos), at(-mostPos, 1)} {
		for _, p := range []api.Sym{
			sym(1, 0, 1), sym(2, 1, 1), sym(1, -1, 2), sym(mostVar, 0, 1), sym(1, 0, mostVar), sym(mostVar, 0, mostVar),
			sym(mostVar, mostVar-1, mostVar), sym(mostVar, 1-mostVar, mostVar), sym(mostVar, 1<<23-1, 1), sym(1, 1-1<<23, mostVar),
			sym(mostVar-1, 0, mostVar-1), sym(1<<44, 1<<44-1, 1<<44), sym(1<<45, -1<<22, 1),
		} {
			all = append(all, api.Ellipse{C: c, P: p})
		}
	}
	return all
}

// invalidEllipses are not valid by one of their numbers, or by their determinant.
func invalidEllipses() []api.Ellipse {
	all := []api.Ellipse{
		{},
		around(0, 0, sym(1, 1, 1)),
		around(0, 0, sym(4, -6, 9)),
		around(3, 4, sym(mostVar, mostVar, mostVar)),
		around(3, 4, sym(mostVar, -mostVar, mostVar)),
		around(3, 4, sym(1, 1<<23, mostVar)),
		around(0, 0, sym(-4, 0, -4)),
		around(0, 0, sym(4, mostVar+1, 4)),
		around(0, 0, sym(4, math.MinInt64, 4)),
		around(mostPos+1, 0, sym(0, 0, 0)),
		around(math.MinInt64, math.MaxInt64, sym(math.MinInt64, math.MinInt64, math.MinInt64)),
		around(math.MaxInt64, math.MinInt64, sym(math.MaxInt64, math.MaxInt64, math.MaxInt64)),
	}
	for _, n := range []int64{0, -1, mostVar + 1, math.MinInt64, math.MaxInt64} {
		all = append(all, around(0, 0, sym(n, 0, 5)), around(0, 0, sym(5, 0, n)), around(0, 0, sym(n, 0, n)))
	}
	for _, n := range []int64{mostPos + 1, -mostPos - 1, math.MinInt64, math.MaxInt64} {
		all = append(all, around(n, 0, sym(4, 1, 4)), around(0, n, sym(4, 1, 4)), around(n, n, sym(4, 1, 4)))
	}
	return all
}

// source makes the same numbers in each run (splitmix64).
type source uint64

func (s *source) word() uint64 {
	*s += 0x9e3779b97f4a7c15
	x := uint64(*s)
	x = (x ^ x>>30) * 0xbf58476d1ce4e5b9
	x = (x ^ x>>27) * 0x94d049bb133111eb
	return x ^ x>>31
}

// to returns a number of any length from -n to n; n is below 2^62.
func (s *source) to(n int64) int64 {
	return int64(s.word()>>1) % (n>>(s.word()%48) + 1) * (1 - 2*int64(s.word()%2))
}

// from0 returns a number of any length from 0 to n.
func (s *source) from0(n int64) int64 { return max(s.to(n), 0) }

func (s *source) point(most int64) api.Point { return at(s.to(most), s.to(most)) }

// ellipse returns a valid one whose A and D are at most most; every third is as thin
// as they allow.
func (s *source) ellipse(most int64) api.Ellipse {
	a, d := 1+s.from0(most-1), 1+s.from0(most-1)
	b := new(big.Int).Sqrt(difference(product(a, d), big.NewInt(1))).Int64()
	if s.word()%3 > 0 {
		b = s.to(b)
	}
	return api.Ellipse{C: s.point(mostPos), P: sym(a, b, d)}
}
