package ellip_test

import (
	"math"
	"math/big"
	"regexp"
	"strings"
	"testing"

	"alidade/api"
)

// made is what a call returns that makes an ellipse.
type made struct {
	e     api.Ellipse
	errno api.Errno
}

func madeOf(e api.Ellipse, errno api.Errno) made { return made{e, errno} }

// reach is what Along returns.
type reach struct {
	n     int64
	errno api.Errno
}

func reachOf(n int64, errno api.Errno) reach { return reach{n, errno} }

func at(x, y int64) api.Point { return api.Point{X: x, Y: y} }

func sym(a, b, d int64) api.Sym { return api.Sym{A: a, B: b, D: d} }

func around(x, y int64, p api.Sym) api.Ellipse { return api.Ellipse{C: at(x, y), P: p} }

func plus(p, q api.Point) api.Point { return at(p.X+q.X, p.Y+q.Y) }

func isFrom(least, n, most int64) bool { return least <= n && n <= most }

func mayPoint(p api.Point) bool {
	return isFrom(-4194304, p.X, 4194304) && isFrom(-4194304, p.Y, 4194304)
}

func mayBe(e api.Ellipse) bool {
	const most = 70368744177664
	return mayPoint(e.C) && isFrom(1, e.P.A, most) && isFrom(-most, e.P.B, most) && isFrom(1, e.P.D, most) && det(e.P).Sign() > 0
}

func product(factors ...int64) *big.Int {
	result := big.NewInt(1)
	for _, n := range factors {
		result.Mul(result, big.NewInt(n))
	}
	return result
}

func sum(terms ...*big.Int) *big.Int {
	result := new(big.Int)
	for _, n := range terms {
		result.Add(result, n)
	}
	return result
}

func det(m api.Sym) *big.Int { return new(big.Int).Sub(product(m.A, m.D), product(m.B, m.B)) }

// quad is p' m p.
func quad(m api.Sym, p api.Point) *big.Int {
	return sum(product(m.A, p.X, p.X), product(2, m.B, p.X, p.Y), product(m.D, p.Y, p.Y))
}

// contains reports whether p is in the valid ellipse e, found by the inverse of the
// matrix: d' adj(P) d is at most the determinant, where d leads from the centre to p.
func contains(e api.Ellipse, p api.Point) bool {
	d := at(p.X-e.C.X, p.Y-e.C.Y)
	return quad(sym(e.P.D, -e.P.B, e.P.A), d).Cmp(det(e.P)) <= 0
}

// rootAbove is the square root of x, rounded up.
func rootAbove(x *big.Int) int64 {
	root := new(big.Int).Sqrt(x)
	if new(big.Int).Mul(root, root).Cmp(x) != 0 {
		root.Add(root, big.NewInt(1))
	}
	return root.Int64()
}

// aText is the form of a Text, whatever its numbers are.
var aText = regexp.MustCompile(`^` + strings.ReplaceAll(`N,N/N,N,N`, `N`, `(0|-?[1-9][0-9]*)`) + `$`)

// parsed is what Parse has to return for s.
func parsed(s string) (api.Ellipse, bool) {
	parts := aText.FindStringSubmatch(s)
	if parts == nil {
		return api.Ellipse{}, false
	}
	var numbers [5]int64
	for i, part := range parts[1:] {
		n, _ := new(big.Int).SetString(part, 10)
		if !n.IsInt64() {
			return api.Ellipse{}, false
		}
		numbers[i] = n.Int64()
	}
	e := around(numbers[0], numbers[1], sym(numbers[2], numbers[3], numbers[4]))
	if !mayBe(e) {
		return api.Ellipse{}, false
	}
	return e, true
}

func checkBool(t *testing.T, call string, got, want bool, arguments ...any) {
	t.Helper()
	if got != want {
		t.Errorf("%s(%v) = %v, want %v", call, arguments, got, want)
	}
}

// around0 are the numbers up to a limit and one beyond, with both signs, and those
// at both ends of int64.
func around0(limits ...int64) []int64 {
	list := []int64{math.MinInt64, math.MinInt64 + 1, -2, -1, 0, 1, 2, math.MaxInt64 - 1, math.MaxInt64}
	for _, n := range limits {
		list = append(list, -n-1, -n, -n+1, n-1, n, n+1)
	}
	return list
}

// pointsOf are all points of the numbers of a list.
func pointsOf(list []int64) []api.Point {
	var all []api.Point
	for _, x := range list {
		for _, y := range list {
			all = append(all, at(x, y))
		}
	}
	return all
}

// matricesOf are all matrices of the numbers of a list.
func matricesOf(list []int64) []api.Sym {
	var all []api.Sym
	for _, a := range list {
		for _, b := range list {
			for _, d := range list {
				all = append(all, sym(a, b, d))
			}
		}
	}
	return all
}

// numbersTo are the numbers from -n to n.
func numbersTo(n int64) []int64 {
	var list []int64
	for k := -n; k <= n; k++ {
		list = append(list, k)
	}
	return list
}

// smallEllipses are all valid ones of small numbers, around two centres.
func smallEllipses() []api.Ellipse {
	var all []api.Ellipse
	for _, p := range matricesOf(numbersTo(9)) {
		for _, e := range []api.Ellipse{around(0, 0, p), around(2, -5, p)} {
			if mayBe(e) {
				all = append(all, e)
			}
		}
	}
	return all
}

// validEllipses are some at the limits, and others of all lengths.
func validEllipses() []api.Ellipse {
	all := []api.Ellipse{
		around(0, 0, sym(1, 0, 1)),
		around(1, -2, sym(2, 1, 1)),
		around(5, 6, sym(1, -1, 2)),
		around(api.MaxPos, api.MaxPos, sym(api.MaxVar, 0, api.MaxVar)),
		around(-api.MaxPos, -api.MaxPos, sym(api.MaxVar, 1-api.MaxVar, api.MaxVar)),
		around(-api.MaxPos, api.MaxPos, sym(api.MaxVar, api.MaxVar-1, api.MaxVar)),
		around(api.MaxPos, -api.MaxPos, sym(1, 0, api.MaxVar)),
		around(api.MaxPos-1, 1-api.MaxPos, sym(api.MaxVar, 0, 1)),
		around(0, api.MaxPos, sym(api.MaxVar, 1<<23-1, 1)),
		around(-api.MaxPos, 0, sym(1, 1-1<<23, api.MaxVar)),
	}
	from := source(3)
	for range 1000 {
		all = append(all, from.ellipse())
	}
	return all
}

// invalidEllipses are not valid by one of their numbers, or by their determinant.
func invalidEllipses() []api.Ellipse {
	all := []api.Ellipse{
		{},
		around(0, 0, sym(1, 1, 1)),
		around(0, 0, sym(4, -6, 9)),
		around(3, 4, sym(api.MaxVar, api.MaxVar, api.MaxVar)),
		around(3, 4, sym(1, 1<<23, api.MaxVar)),
		around(0, 0, sym(-4, 0, -4)),
		around(0, 0, sym(-4, 1, 4)),
		around(0, 0, sym(4, math.MinInt64, 4)),
		around(0, 0, sym(math.MinInt64, 0, math.MinInt64)),
		around(0, 0, sym(math.MaxInt64, 0, math.MaxInt64)),
	}
	for _, n := range []int64{0, -1, api.MaxVar + 1, math.MinInt64, math.MaxInt64} {
		all = append(all, around(0, 0, sym(n, 0, 5)), around(0, 0, sym(5, 0, n)), around(0, 0, sym(n, 0, n)))
	}
	for _, n := range []int64{api.MaxPos + 1, -api.MaxPos - 1, math.MinInt64, math.MaxInt64} {
		all = append(all, around(n, 0, sym(4, 1, 4)), around(0, n, sym(4, 1, 4)), around(n, n, sym(4, 1, 4)))
	}
	return all
}

// inside are the points of small numbers that are in e, found by the oracle.
func inside(e api.Ellipse, points []api.Point) []api.Point {
	var all []api.Point
	for _, p := range points {
		if contains(e, p) {
			all = append(all, p)
		}
	}
	return all
}

// source makes the same numbers in each run (splitmix64).
type source uint64

func (s *source) word() uint64 {
	*s += 0x9e3779b97f4a7c15
	x := uint64(*s)
	x = (x ^ x>>30) * 0xbf58476d1ce4e5b9
	x = (x ^ x>>27) * 0x94d049bb133111eb
	return x ^ x>>31
}

// to returns a number of any length from -n to n; n is below 2^62.
func (s *source) to(n int64) int64 {
	return int64(s.word()>>1) % (n>>(s.word()%48) + 1) * (1 - 2*int64(s.word()%2))
}

func (s *source) point(most int64) api.Point { return at(s.to(most), s.to(most)) }

// ellipse returns a valid one; every third is as thin as its A and D allow.
func (s *source) ellipse() api.Ellipse {
	abs := func(n int64) int64 { return max(n, -n) }
	a, d := 1+abs(s.to(api.MaxVar-1)), 1+abs(s.to(api.MaxVar-1))
	b := new(big.Int).Sqrt(new(big.Int).Sub(product(a, d), big.NewInt(1))).Int64()
	if s.word()%3 > 0 {
		b = s.to(b)
	}
	return api.Ellipse{C: s.point(api.MaxPos), P: sym(a, b, d)}
}

// border returns points on both sides of the upper and of the lower border of e,
// somewhere between its left and its right end.
func (s *source) border(e api.Ellipse) []api.Point {
	reach := new(big.Int).Sqrt(big.NewInt(e.P.A)).Int64()
	dx := s.to(reach)
	rest := new(big.Int).Sub(big.NewInt(e.P.A), product(dx, dx))
	half := new(big.Int).Sqrt(rest.Mul(rest, det(e.P)))
	middle := product(e.P.B, dx)
	var all []api.Point
	for _, y := range []*big.Int{sum(middle, half), new(big.Int).Sub(middle, half)} {
		dy := y.Div(y, big.NewInt(e.P.A)).Int64()
		for d := int64(-1); d <= 2; d++ {
			all = append(all, plus(e.C, at(dx, dy+d)))
		}
	}
	return all
}
