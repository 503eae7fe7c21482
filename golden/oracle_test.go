package golden_test

import (
	"cmp"
	"math"
	"math/bits"
	"slices"
	"testing"

	"alidade/api"
	"alidade/ellip"
	"alidade/golden"
	"alidade/info"
)

const (
	mostPos = 4194304
	mostVar = 70368744177664
	mostH   = 16777216
	mostLo  = 1125899906842624
	weights = 34
)

// found is what Best returns.
type found struct {
	weight int
	value  int64
	has    bool
}

func foundOf(weight int, value int64, has bool) found { return found{weight, value, has} }

// table are the values of the weights that have one.
type table map[int]int64

// value hands out the least number beside false, which has to be ignored.
func (values table) value(w int) (int64, bool) {
	if n, has := values[w]; has {
		return n, true
	}
	return math.MinInt64, false
}

// without returns the table in which these weights have no value.
func (values table) without(missing ...int) table {
	rest := table{}
	for w, n := range values {
		if !slices.Contains(missing, w) {
			rest[w] = n
		}
	}
	return rest
}

// all is the table of the values of f for all weights.
func all(f func(w int) int64) table {
	values := table{}
	for w := range weights + 1 {
		values[w] = f(w)
	}
	return values
}

// searched is what Best has to return for f, and the weights for which it has to call it,
// in their order.
func searched(f func(w int) (int64, bool)) (best found, order []int) {
	answers := map[int]*int64{}
	ask := func(w int) {
		if _, known := answers[w]; known {
			return
		}
		order = append(order, w)
		answers[w] = nil
		if n, has := f(w); has {
			answers[w] = &n
		}
	}
	a, x, y, b := 0, 13, 21, weights
	ask(x)
	ask(y)
	for b-a > 2 {
		if p, q := answers[x], answers[y]; q == nil || p != nil && *p <= *q {
			x, y, b = a+y-x, x, y
			ask(x)
		} else {
			a, x, y = x, y, x+b-y
			ask(y)
		}
	}
	for _, w := range slices.Sorted(slices.Values(order)) {
		if n := answers[w]; n != nil && (!best.has || *n < best.value) {
			best = found{w, *n, true}
		}
	}
	return best, order
}

// checkBest holds what Best returns, and the weights for which it calls f, against what
// they have to be.
func checkBest(t *testing.T, f func(w int) (int64, bool), arguments ...any) {
	t.Helper()
	got, asked := watched(f)
	want, order := searched(f)
	if got != want || !slices.Equal(asked, order) {
		t.Errorf("Best = %v after %v, want %v after %v (%v)", got, asked, want, order, arguments)
	}
}

// watched calls Best, and tells for which weights it calls f.
func watched(f func(w int) (int64, bool)) (got found, asked []int) {
	got = foundOf(golden.Best(func(w int) (int64, bool) {
		asked = append(asked, w)
		return f(w)
	}))
	return got, asked
}

// made is what a call returns that makes an ellipse.
type made struct {
	e     api.Ellipse
	errno api.Errno
}

func madeOf(e api.Ellipse, errno api.Errno) made { return made{e, errno} }

var (
	refused = made{errno: api.ErrArg}
	empty   = made{errno: api.ErrEmpty}
)

func checkMade(t *testing.T, call string, got, want made, arguments ...any) {
	t.Helper()
	if got != want {
		t.Errorf("%s(%v) = %v, want %v", call, arguments, got, want)
	}
}

func at(x, y int64) api.Point { return api.Point{X: x, Y: y} }

func sym(a, b, d int64) api.Sym { return api.Sym{A: a, B: b, D: d} }

func around(x, y int64, p api.Sym) api.Ellipse { return api.Ellipse{C: at(x, y), P: p} }

func okay(x, y int64, p api.Sym) made { return made{around(x, y, p), api.OK} }

func strip(o, h api.Point, lo, hi int64) api.Strip { return api.Strip{O: o, H: h, Lo: lo, Hi: hi} }

func trace(e api.Ellipse) int64 { return e.P.A + e.P.D }

// mixing makes an ellipse for a weight.
type mixing func(w int) made

func fusing(e, f api.Ellipse) mixing {
	return remembered(func(w int) made { return madeOf(info.Fuse(e, f, w)) })
}

func cutting(e api.Ellipse, s api.Strip) mixing {
	return remembered(func(w int) made { return madeOf(info.Cut(e, s, w)) })
}

// remembered calls mix once for a weight, to save time.
func remembered(mix mixing) mixing {
	known := map[int]made{}
	return func(w int) made {
		if _, has := known[w]; !has {
			known[w] = mix(w)
		}
		return known[w]
	}
}

func (mix mixing) value(w int) (int64, bool) {
	m := mix(w)
	return trace(m.e), m.errno == api.OK
}

// errors are what mix returns for the weights that are asked, in their order: E is
// ErrEmpty, O is ErrOver, and a dot is OK.
func (mix mixing) errors() string {
	_, order := searched(mix.value)
	text := ""
	for _, w := range order {
		text += map[api.Errno]string{api.OK: ".", api.ErrOver: "O", api.ErrEmpty: "E"}[mix(w).errno]
	}
	return text
}

// isEmptyBetween reports whether mix returns ErrEmpty for a weight that is not asked.
func (mix mixing) isEmptyBetween() bool {
	_, order := searched(mix.value)
	for w := 1; w < weights; w++ {
		if !slices.Contains(order, w) && mix(w) == empty {
			return true
		}
	}
	return false
}

// chosen is what has to be returned: the first one with the least trace of first, the
// best ellipse that mix makes, and last.
func (mix mixing) chosen(first api.Ellipse, last ...api.Ellipse) made {
	best, order := searched(mix.value)
	for _, w := range order {
		if mix(w) == empty {
			return empty
		}
	}
	choice := []api.Ellipse{first}
	if best.has {
		choice = append(choice, mix(best.weight).e)
	}
	choice = append(choice, last...)
	byTrace := func(e, f api.Ellipse) int { return cmp.Compare(trace(e), trace(f)) }
	return made{slices.MinFunc(choice, byTrace), api.OK}
}

// contains reports whether the small ellipse e contains the near point p: P - x x' is
// positive semidefinite.
func contains(e api.Ellipse, p api.Point) bool {
	x, y := p.X-e.C.X, p.Y-e.C.Y
	a, b, d := e.P.A-x*x, e.P.B-x*y, e.P.D-y*y
	return a >= 0 && d >= 0 && a*d >= b*b
}

// stripContains reports whether s contains the near point p.
func stripContains(s api.Strip, p api.Point) bool {
	h := along(s, p)
	return s.Lo <= h && h <= s.Hi
}

// along is H . (p - O).
func along(s api.Strip, p api.Point) int64 {
	return s.H.X*(p.X-s.O.X) + s.H.Y*(p.Y-s.O.Y)
}

// square are the points whose coordinates are from -n to n.
func square(n int64) []api.Point {
	var points []api.Point
	for x := -n; x <= n; x++ {
		for y := -n; y <= n; y++ {
			points = append(points, at(x, y))
		}
	}
	return points
}

// invalidEllipses are not valid by one of their numbers, or by their determinant.
func invalidEllipses() []api.Ellipse {
	invalid := []api.Ellipse{
		{},
		around(0, 0, sym(1, 1, 1)),
		around(0, 0, sym(4, -6, 9)),
		around(3, 4, sym(mostVar, mostVar, mostVar)),
		around(0, 0, sym(-4, 0, -4)),
		around(0, 0, sym(4, mostVar+1, 4)),
		around(math.MinInt64, math.MaxInt64, sym(math.MinInt64, math.MinInt64, math.MinInt64)),
		around(math.MaxInt64, math.MinInt64, sym(math.MaxInt64, math.MaxInt64, math.MaxInt64)),
	}
	for _, n := range []int64{0, -1, mostVar + 1, math.MinInt64, math.MaxInt64} {
		invalid = append(invalid, around(0, 0, sym(n, 0, 5)), around(0, 0, sym(5, 0, n)))
	}
	for _, n := range []int64{mostPos + 1, -mostPos - 1, math.MinInt64, math.MaxInt64} {
		invalid = append(invalid, around(n, 0, sym(4, 1, 4)), around(0, n, sym(4, 1, 4)))
	}
	return invalid
}

// invalidStrips are not valid by one of their numbers.
func invalidStrips() []api.Strip {
	invalid := []api.Strip{
		{},
		strip(at(0, 0), at(0, 0), -5, 8),
		strip(at(0, 0), at(3, -4), 1, 1),
		strip(at(0, 0), at(3, -4), 2, 1),
		strip(at(0, 0), at(3, -4), -mostLo-1, 8),
		strip(at(0, 0), at(3, -4), -5, mostLo+1),
		strip(at(0, 0), at(3, -4), math.MinInt64, math.MaxInt64),
		strip(at(0, 0), at(3, -4), math.MaxInt64, math.MinInt64),
	}
	for _, n := range []int64{mostPos + 1, -mostPos - 1, math.MinInt64, math.MaxInt64} {
		invalid = append(invalid, strip(at(n, 0), at(3, -4), -5, 8), strip(at(0, n), at(3, -4), -5, 8))
	}
	for _, n := range []int64{mostH + 1, -mostH - 1, math.MinInt64, math.MaxInt64} {
		invalid = append(invalid, strip(at(0, 0), at(n, 1), -5, 8), strip(at(0, 0), at(1, n), -5, 8))
	}
	return invalid
}

// source makes the same numbers in each run (splitmix64).
type source uint64

func (s *source) word() uint64 {
	*s += 0x9e3779b97f4a7c15
	x := uint64(*s)
	x = (x ^ x>>30) * 0xbf58476d1ce4e5b9
	x = (x ^ x>>27) * 0x94d049bb133111eb
	return x ^ x>>31
}

// below returns a number from 0 to n - 1.
func (s *source) below(n int) int { return int(s.word() % uint64(n)) }

// to returns a number of any length from -n to n; n is below 2^62.
func (s *source) to(n int64) int64 {
	shift := s.below(max(bits.Len64(uint64(n)), 1))
	return int64(s.word()>>1) % (n>>shift + 1) * (1 - 2*int64(s.word()%2))
}

// from1 returns a number of any length from 1 to n.
func (s *source) from1(n int64) int64 { return 1 + max(s.to(n-1), 0) }

// evenly returns a number from -n to n, each as often as the others.
func (s *source) evenly(n int64) int64 { return int64(s.below(int(2*n+1))) - n }

// matrix returns a valid one with this A and D; every third is as thin as they allow.
func (s *source) matrix(a, d int64) api.Sym {
	b := greatestB(a, d)
	if s.below(3) > 0 {
		b = s.to(b)
	}
	return sym(a, b, d)
}

// greatestB is the greatest B that is valid with a and d, or one beside it.
func greatestB(a, d int64) int64 {
	b := int64(math.Sqrt(float64(a)) * math.Sqrt(float64(d)))
	for !ellip.May(around(0, 0, sym(a, b, d))) {
		b--
	}
	return b
}

// small returns an ellipse, and a strip, near to others that it returns.
func (s *source) small() (api.Ellipse, api.Strip) {
	most := []int{6, 30, 100, 400}[s.below(4)]
	p := s.matrix(int64(1+s.below(most)), int64(1+s.below(most)))
	h, lo := at(s.evenly(5), int64(1+s.below(5))), s.evenly(60)
	e := around(s.evenly(8), s.evenly(8), p)
	return e, strip(at(s.evenly(8), s.evenly(8)), h, lo, lo+int64(1+s.below(60)))
}

// great returns an ellipse that is long, thin, and often at the border, and a strip.
func (s *source) great() (api.Ellipse, api.Strip) {
	long, other := 1+s.evenly(mostVar/2)+mostVar/2, s.from1(mostVar)
	p := s.matrix(long>>s.below(13), other)
	if s.below(2) == 0 {
		p.A, p.D = p.D, p.A
	}
	p.B *= 1 - 2*int64(s.below(2))
	lo := s.to(mostLo - 1)
	h := at(s.to(mostH), s.from1(mostH))
	return api.Ellipse{C: s.border(), P: p}, strip(s.border(), h, lo, lo+s.from1(mostLo-max(lo, 0)))
}

func (s *source) border() api.Point {
	coordinate := func() int64 {
		return []int64{-mostPos, mostPos, mostPos - int64(s.below(1000)), s.evenly(mostPos)}[s.below(4)]
	}
	return at(coordinate(), coordinate())
}

// meeting returns ellipses and a strip of all sizes that have the point p in common,
// often at the border of each.
func (s *source) meeting(p api.Point) (e, f api.Ellipse, cutting api.Strip) {
	aroundPoint := func() api.Ellipse {
		e := api.Ellipse{P: s.matrix(s.from1(1<<40), s.from1(1<<40))}
		x, y := ellip.Hull(e)
		for {
			e.C = at(p.X+s.to(x), p.Y+s.to(y))
			if ellip.In(e, p) {
				return e
			}
			x, y = x-x/4, y-y/4
		}
	}
	_, cutting = s.great()
	h := along(cutting, p)
	cutting.Lo, cutting.Hi = h-max(s.to(1<<20), 0), h+max(s.to(1<<20), 0)
	if cutting.Lo == cutting.Hi {
		cutting.Hi++
	}
	return aroundPoint(), aroundPoint(), cutting
}
