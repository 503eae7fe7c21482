package root_test

import (
	"math"
	"math/big"
	"testing"

	"alidade/api"
	"alidade/wide"
)

// answer is what a call returns.
type answer struct {
	n     int64
	errno api.Errno
}

func answerOf(n int64, errno api.Errno) answer { return answer{n, errno} }

// fitted is what the document requires for the result x.
func fitted(x *big.Int) answer {
	if !x.IsInt64() {
		return answer{0, api.ErrOver}
	}
	return answer{x.Int64(), api.OK}
}

func isOver(x *big.Int) bool { return x.BitLen() > api.MaxBits }

func wideOf(t *testing.T, x *big.Int) wide.Int {
	t.Helper()
	a, ok := wide.Parse(x.Text(16))
	if !ok {
		t.Fatalf("Parse(%s) = false", x.Text(16))
	}
	return a
}

// overs are numbers that became over in different ways.
func overs() []wide.Int {
	top := wide.Shift(wide.Of(1), api.MaxBits-1)
	return []wide.Int{
		wide.Add(top, top),
		wide.Mul(top, wide.Of(-2)),
		wide.Shift(wide.Of(1), 5000),
		wide.Neg(wide.Shift(wide.Of(1), api.MaxBits)),
	}
}

// quotientBelow is a / b, rounded down, for a b of either sign: Div of big rounds
// so that the rest is not negative.
func quotientBelow(a, b *big.Int) *big.Int {
	if b.Sign() < 0 {
		a, b = new(big.Int).Neg(a), new(big.Int).Neg(b)
	}
	return new(big.Int).Div(a, b)
}

// quotientAbove is a / b, rounded up, found by the rest of the one below.
func quotientAbove(a, b *big.Int) *big.Int {
	below := quotientBelow(a, b)
	if new(big.Int).Mul(below, b).Cmp(a) != 0 {
		below.Add(below, big.NewInt(1))
	}
	return below
}

// rootBelow is the square root of x, rounded down.
func rootBelow(x *big.Int) *big.Int { return new(big.Int).Sqrt(x) }

// rootAbove is the square root of x, rounded up.
func rootAbove(x *big.Int) *big.Int {
	root := rootBelow(x)
	if new(big.Int).Mul(root, root).Cmp(x) != 0 {
		root.Add(root, big.NewInt(1))
	}
	return root
}

func powerOf2(k uint) *big.Int { return new(big.Int).Lsh(big.NewInt(1), k) }

func sum(x *big.Int, d int64) *big.Int { return new(big.Int).Add(x, big.NewInt(d)) }

// greatest is the greatest number that is not over.
func greatest() *big.Int { return sum(powerOf2(api.MaxBits), -1) }

// int64s are the numbers around 0, around powers of 2, and at both ends.
func int64s() []int64 {
	list := []int64{math.MinInt64, math.MinInt64 + 1, math.MinInt64 + 2, math.MaxInt64 - 2, math.MaxInt64 - 1, math.MaxInt64, 0, 5, -6, 7, 10, -10, 3037000499, 3037000500}
	for _, k := range []int{0, 1, 2, 22, 31, 32, 46, 62} {
		for d := int64(-1); d <= 1; d++ {
			list = append(list, 1<<k+d, -1<<k+d)
		}
	}
	return list
}

// edges are the numbers around 0, around powers of 2 at the limits of int64, words
// and the whole number, and at both ends, with both signs.
func edges() []*big.Int {
	list := []*big.Int{big.NewInt(0)}
	for _, k := range []uint{0, 1, 2, 3, 31, 32, 62, 63, 64, 65, 126, 127, 128, 512, 897, 958, 959, 960, 1020, 1021, 1022, 1023} {
		for d := int64(-1); d <= 1; d++ {
			if x := sum(powerOf2(k), d); !isOver(x) {
				list = append(list, x, new(big.Int).Neg(x))
			}
		}
	}
	return list
}

// source makes the same numbers in each run (splitmix64).
type source uint64

func (s *source) word() uint64 {
	*s += 0x9e3779b97f4a7c15
	x := uint64(*s)
	x = (x ^ x>>30) * 0xbf58476d1ce4e5b9
	x = (x ^ x>>27) * 0x94d049bb133111eb
	return x ^ x>>31
}

// below returns a number from 0 to n - 1.
func (s *source) below(n int) int { return int(s.word() % uint64(n)) }

// short returns a number of any length up to 63 bits, with either sign.
func (s *source) short() int64 { return int64(s.word()) >> s.below(64) }

// long returns a number of at most so many bits, with either sign.
func (s *source) long(bits int) *big.Int {
	x := new(big.Int)
	for range (bits + 63) / 64 {
		x.Or(x.Lsh(x, 64), new(big.Int).SetUint64(s.word()))
	}
	x.And(x, sum(powerOf2(uint(bits)), -1))
	if s.below(2) == 0 {
		x.Neg(x)
	}
	return x
}
