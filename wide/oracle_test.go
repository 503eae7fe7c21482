package wide_test

import (
	"math/big"
	"testing"

	"alidade/api"
	"alidade/wide"
)

// overText is what Text returns for a number that is over.
const overText = "over"

// textOf is the Text that the document requires for x.
func textOf(x *big.Int) string {
	if x.BitLen() > api.MaxBits {
		return overText
	}
	return x.Text(16)
}

func wideOf(t *testing.T, x *big.Int) wide.Int {
	t.Helper()
	return parsed(t, x.Text(16))
}

func parsed(t *testing.T, s string) wide.Int {
	t.Helper()
	a, ok := wide.Parse(s)
	if !ok {
		t.Fatalf("Parse(%q) = false", s)
	}
	return a
}

// overs are numbers that became over in different ways.
func overs() []wide.Int {
	one := wide.Of(1)
	top := wide.Shift(one, api.MaxBits-1)
	return []wide.Int{
		wide.Add(top, top),
		wide.Sub(wide.Neg(top), wide.Add(top, one)),
		wide.Mul(top, wide.Of(-2)),
		wide.Mul(top, top),
		wide.Shift(one, api.MaxBits),
		wide.Shift(wide.Of(-1), 5000),
	}
}

func powerOf2(k uint) *big.Int { return new(big.Int).Lsh(big.NewInt(1), k) }

// greatest is the greatest number that is not over.
func greatest() *big.Int { return new(big.Int).Sub(powerOf2(api.MaxBits), big.NewInt(1)) }

// edges are the numbers around 0 and around powers of 2 at the limits of bytes,
// words and the whole number, with both signs.
func edges() []*big.Int {
	list := []*big.Int{big.NewInt(0)}
	for _, k := range []uint{0, 1, 2, 4, 8, 31, 32, 33, 62, 63, 64, 65, 127, 128, 129, 191, 192, 511, 512, 513, 959, 960, 1021, 1022, 1023} {
		for d := int64(-1); d <= 1; d++ {
			x := new(big.Int).Add(powerOf2(k), big.NewInt(d))
			if x.BitLen() <= api.MaxBits {
				list = append(list, x, new(big.Int).Neg(x))
			}
		}
	}
	return list
}

// source makes the same numbers in each run (splitmix64).
type source uint64

func (s *source) word() uint64 {
	*s += 0x9e3779b97f4a7c15
	x := uint64(*s)
	x = (x ^ x>>30) * 0xbf58476d1ce4e5b9
	x = (x ^ x>>27) * 0x94d049bb133111eb
	return x ^ x>>31
}

// below returns a number from 0 to n - 1.
func (s *source) below(n int) int { return int(s.word() % uint64(n)) }

// number returns a number of at most so many bits, often with words that are
// extreme: these lead to carries, and to digits of quotients that are estimated
// too great.
func (s *source) number(bits int) *big.Int {
	x := new(big.Int)
	for range (bits + 63) / 64 {
		word := s.word()
		switch s.below(6) {
		case 0:
			word = 0
		case 1:
			word = 1<<64 - 1
		case 2:
			word = 1 << 63
		case 3:
			word >>= s.below(64)
		}
		x.Or(x.Lsh(x, 64), new(big.Int).SetUint64(word))
	}
	x.And(x, new(big.Int).Sub(powerOf2(uint(bits)), big.NewInt(1)))
	if s.below(2) == 0 {
		x.Neg(x)
	}
	return x
}

// pairs are all pairs of edges, and pairs of numbers of all lengths.
func pairs() [][2]*big.Int {
	var list [][2]*big.Int
	for _, a := range edges() {
		for _, b := range edges() {
			list = append(list, [2]*big.Int{a, b})
		}
	}
	from := source(1)
	for range 20000 {
		a := from.number(1 + from.below(api.MaxBits))
		b := from.number(1 + from.below(api.MaxBits))
		list = append(list, [2]*big.Int{a, b})
	}
	return list
}

// singles are the edges, and numbers of all lengths.
func singles() []*big.Int {
	list := edges()
	from := source(2)
	for bits := 1; bits <= api.MaxBits; bits++ {
		list = append(list, from.number(bits), from.number(bits))
	}
	return list
}
