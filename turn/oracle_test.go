package turn_test

import (
	"math"
	"math/big"

	"alidade/api"
)

const (
	mostRange = 4194304
	mostPos   = 4194304
)

func at(x, y int64) api.Point { return api.Point{X: x, Y: y} }

func isBetween(n, most int64) bool { return -most <= n && n <= most }

func isStep(p api.Point) bool { return isBetween(p.X, mostRange) && isBetween(p.Y, mostRange) }

// turned returns p turned by one right angle, again and again; k may be negative.
func turned(p api.Point, k int) api.Point {
	for range (k%4 + 4) % 4 {
		p = at(-p.Y, p.X)
	}
	return p
}

func wantQuarter(p api.Point, k int) api.Point {
	if !isStep(p) {
		return at(0, 0)
	}
	return turned(p, k)
}

func wantMul(p, q api.Point) api.Point {
	if !isStep(p) || !isStep(q) {
		return at(0, 0)
	}
	return at(p.X*q.X-p.Y*q.Y, p.X*q.Y+p.Y*q.X)
}

func wantNorm(p api.Point) int64 {
	if !isStep(p) {
		return 0
	}
	return p.X*p.X + p.Y*p.Y
}

func wantDist(p, q api.Point) int64 {
	for _, n := range []int64{p.X, p.Y, q.X, q.Y} {
		if !isBetween(n, mostPos) {
			return 0
		}
	}
	x, y := big.NewInt(p.X-q.X), big.NewInt(p.Y-q.Y)
	squares := new(big.Int).Add(x.Mul(x, x), y.Mul(y, y))
	return squares.Sqrt(squares).Int64()
}

// way is what Path returns.
type way struct {
	p  api.Point
	ok bool
}

func wayOf(p api.Point, ok bool) way { return way{p, ok} }

var noWay = way{}

// wantPath adds in an int64, which holds the sum of 64 steps.
func wantPath(l []api.Point, k int) way {
	var sum api.Point
	for n, p := range l {
		if n == 64 {
			break
		}
		if !isStep(p) {
			return noWay
		}
		p = turned(p, (n+1)*(k%4))
		sum = at(sum.X+p.X, sum.Y+p.Y)
	}
	if !isStep(sum) {
		return noWay
	}
	return way{sum, true}
}

// coordinates are those of steps: small ones, and ones at the limits and beside powers
// of 2.
func coordinates() []int64 {
	var list []int64
	for n := int64(-9); n <= 9; n++ {
		list = append(list, n)
	}
	for _, n := range []int64{1000, 2047, 2048, 46341, 65536, 2097151, 2097152, 4194301, 4194302, 4194303, 4194304} {
		list = append(list, n, -n)
	}
	return list
}

// steps are all vectors with these coordinates.
func steps() []api.Point {
	var list []api.Point
	for _, x := range coordinates() {
		for _, y := range coordinates() {
			list = append(list, at(x, y))
		}
	}
	return list
}

// outside are numbers that are not coordinates of a step, and not of a valid point. As
// int32, or as a float64 that is rounded, some of them would be.
func outside() []int64 {
	return []int64{
		mostRange + 1, -mostRange - 1, mostRange + 2, 2 * mostRange, -2 * mostRange, 1<<31 - 1, 1 << 31, 1 << 32, 1<<32 + 1, -1 << 32,
		1<<53 + 1, 1 << 62, -1 << 62, math.MaxInt64 - 1, math.MaxInt64, math.MinInt64 + 1, math.MinInt64,
	}
}

// noSteps have one such coordinate, or two.
func noSteps() []api.Point {
	var list []api.Point
	for _, n := range outside() {
		for _, m := range []int64{0, 1, -3, mostRange, -mostRange} {
			list = append(list, at(n, m), at(m, n))
		}
		list = append(list, at(n, n), at(n, -mostRange-1), at(mostRange+1, n))
	}
	return list
}

// turns are numbers of right angles, with those at both ends.
func turns() []int {
	list := []int{math.MinInt, math.MinInt + 1, math.MinInt + 2, math.MinInt + 3, math.MaxInt - 3, math.MaxInt - 2, math.MaxInt - 1, math.MaxInt, 1 << 32, 1<<32 + 1, -1<<32 - 1, 1<<53 + 1, 1<<62 + 3}
	for k := -13; k <= 13; k++ {
		list = append(list, k)
	}
	return list
}

// source makes the same numbers in each run (splitmix64).
type source uint64

func (s *source) word() uint64 {
	*s += 0x9e3779b97f4a7c15
	x := uint64(*s)
	x = (x ^ x>>30) * 0xbf58476d1ce4e5b9
	x = (x ^ x>>27) * 0x94d049bb133111eb
	return x ^ x>>31
}

// below returns a number from 0 to n - 1.
func (s *source) below(n int) int { return int(s.word() % uint64(n)) }

// to returns a number of any length from -n to n.
func (s *source) to(n int64) int64 {
	n >>= s.below(23)
	return int64(s.below(int(2*n+1))) - n
}

// step returns one with coordinates of any length up to most.
func (s *source) step(most int64) api.Point { return at(s.to(most), s.to(most)) }

// turn returns any number of right angles.
func (s *source) turn() int { return int(s.word()) >> s.below(64) }

// list returns so many steps.
func (s *source) list(length int, most int64) []api.Point {
	l := make([]api.Point, length)
	for i := range l {
		l[i] = s.step(most)
	}
	return l
}

func someSteps(seed source, length int) []api.Point { return seed.list(length, mostRange) }
