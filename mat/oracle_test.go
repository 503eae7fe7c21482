package mat_test

import (
	"math"
	"math/big"
	"testing"

	"alidade/api"
	"alidade/wide"
)

// most is the greatest number of a valid matrix.
const most = 1 << 61

// sumAnswer is what Add returns.
type sumAnswer struct {
	m     api.Sym
	errno api.Errno
}

func sumAnswerOf(m api.Sym, errno api.Errno) sumAnswer { return sumAnswer{m, errno} }

// bigSym is a matrix of numbers of any size.
type bigSym struct {
	a, b, d *big.Int
}

func bigOf(m api.Sym) bigSym {
	return bigSym{big.NewInt(m.A), big.NewInt(m.B), big.NewInt(m.D)}
}

func product(x, y *big.Int) *big.Int { return new(big.Int).Mul(x, y) }

// bigSquare is p p'.
func bigSquare(p api.Point) bigSym {
	x, y := big.NewInt(p.X), big.NewInt(p.Y)
	return bigSym{product(x, x), product(x, y), product(y, y)}
}

func (m bigSym) minus(n bigSym) bigSym {
	return bigSym{new(big.Int).Sub(m.a, n.a), new(big.Int).Sub(m.b, n.b), new(big.Int).Sub(m.d, n.d)}
}

func (m bigSym) det() *big.Int {
	return new(big.Int).Sub(product(m.a, m.d), product(m.b, m.b))
}

func (m bigSym) psd() bool {
	return m.a.Sign() >= 0 && m.d.Sign() >= 0 && m.det().Sign() >= 0
}

// quad is p' m p, found by the vector m p.
func (m bigSym) quad(p api.Point) *big.Int {
	x, y := big.NewInt(p.X), big.NewInt(p.Y)
	upper := new(big.Int).Add(product(m.a, x), product(m.b, y))
	lower := new(big.Int).Add(product(m.b, x), product(m.d, y))
	return new(big.Int).Add(product(upper, x), product(lower, y))
}

func mayBe(m api.Sym) bool {
	for _, n := range []int64{m.A, m.B, m.D} {
		if n < -most || n > most {
			return false
		}
	}
	return true
}

func checkWide(t *testing.T, call string, got wide.Int, want *big.Int, arguments ...any) {
	t.Helper()
	if wide.Text(got) != want.Text(16) {
		t.Errorf("%s(%v) = %s, want %s", call, arguments, wide.Text(got), want.Text(16))
	}
}

func checkBool(t *testing.T, call string, got, want bool, arguments ...any) {
	t.Helper()
	if got != want {
		t.Errorf("%s(%v) = %v, want %v", call, arguments, got, want)
	}
}

// edges are the numbers at the limits of a valid matrix, beside 0, and at both
// ends of int64.
func edges() []int64 {
	return []int64{math.MinInt64, math.MinInt64 + 1, -most - 1, -most, -1, 0, 1, 3, most, most + 1, math.MaxInt64 - 1, math.MaxInt64}
}

// matricesOf are all matrices of the numbers of a list.
func matricesOf(list []int64) []api.Sym {
	var all []api.Sym
	for _, a := range list {
		for _, b := range list {
			for _, d := range list {
				all = append(all, api.Sym{A: a, B: b, D: d})
			}
		}
	}
	return all
}

// pointsOf are all points of the numbers of a list.
func pointsOf(list []int64) []api.Point {
	var all []api.Point
	for _, x := range list {
		for _, y := range list {
			all = append(all, api.Point{X: x, Y: y})
		}
	}
	return all
}

// numbersTo are the numbers from -n to n.
func numbersTo(n int64) []int64 {
	var list []int64
	for k := -n; k <= n; k++ {
		list = append(list, k)
	}
	return list
}

// besideFlat are matrices with a determinant of 0, from numbers that fit into an
// int64, and those beside them by 1 in a number or two.
func besideFlat() []api.Sym {
	var all []api.Sym
	from := source(7)
	for range 500 {
		x, y := from.short()>>33, from.short()>>33
		k := int64(from.below(4)) - 1
		flat := api.Sym{A: k * x * x, B: k * x * y, D: k * y * y}
		for _, step := range matricesOf(numbersTo(1)) {
			all = append(all, api.Sym{A: flat.A + step.A, B: flat.B + step.B, D: flat.D + step.D})
		}
	}
	return all
}

// source makes the same numbers in each run (splitmix64).
type source uint64

func (s *source) word() uint64 {
	*s += 0x9e3779b97f4a7c15
	x := uint64(*s)
	x = (x ^ x>>30) * 0xbf58476d1ce4e5b9
	x = (x ^ x>>27) * 0x94d049bb133111eb
	return x ^ x>>31
}

// below returns a number from 0 to n - 1.
func (s *source) below(n int) int { return int(s.word() % uint64(n)) }

// short returns a number of any length up to 63 bits, with either sign.
func (s *source) short() int64 { return int64(s.word()) >> s.below(64) }

func (s *source) sym() api.Sym { return api.Sym{A: s.short(), B: s.short(), D: s.short()} }

// validSym returns a valid matrix.
func (s *source) validSym() api.Sym {
	return api.Sym{A: s.short() >> 2, B: s.short() >> 2, D: s.short() >> 2}
}

func (s *source) point() api.Point { return api.Point{X: s.short(), Y: s.short()} }
