package wide

import (
	"alidade/api"
	"math/bits"
)

const (
	wordBits  = 64
	wordCount = (api.MaxBits + wordBits) / wordBits
)

// magnitude is a number without a sign, with the least significant word first.
// That of an Int has at most MaxBits bits; the one more that the words hold lets
// a sum of two be looked at before it is refused.
type magnitude [wordCount]uint64

func (m magnitude) isZero() bool { return m == magnitude{} }

// wordLength returns the number of words without leading zero words.
func (m magnitude) wordLength() int {
	length := wordCount
	for length > 0 && m[length-1] == 0 {
		length--
	}
	return length
}

func (m magnitude) bitLength() int {
	length := m.wordLength()
	if length == 0 {
		return 0
	}
	return (length-1)*wordBits + bits.Len64(m[length-1])
}

func (m magnitude) compare(n magnitude) int {
	for i := wordCount - 1; i >= 0; i-- {
		if m[i] < n[i] {
			return -1
		}
		if m[i] > n[i] {
			return 1
		}
	}
	return 0
}

// plus returns m + n; both have at most MaxBits bits, so that no carry is left.
func (m magnitude) plus(n magnitude) magnitude {
	var sum magnitude
	var carry uint64
	for i := range wordCount {
		sum[i], carry = bits.Add64(m[i], n[i], carry)
	}
	return sum
}

// minus returns m - n; n is at most m, so that no borrow is left.
func (m magnitude) minus(n magnitude) magnitude {
	var difference magnitude
	var borrow uint64
	for i := range wordCount {
		difference[i], borrow = bits.Sub64(m[i], n[i], borrow)
	}
	return difference
}

// times returns m * n, and false if the words do not hold it.
func (m magnitude) times(n magnitude) (magnitude, bool) {
	var product [2 * wordCount]uint64
	rows, columns := m.wordLength(), n.wordLength()
	for i := range rows {
		var carry uint64
		for j := range columns {
			product[i+j], carry = multiplyAdd(m[i], n[j], product[i+j], carry)
		}
		product[i+columns] = carry
	}
	low := magnitude(product[:wordCount])
	high := magnitude(product[wordCount:])
	if !high.isZero() {
		return magnitude{}, false
	}
	return low, true
}

// multiplyAdd returns a * b + c + d as a low and a high word; two words hold the
// greatest such sum.
func multiplyAdd(a, b, c, d uint64) (low, high uint64) {
	high, low = bits.Mul64(a, b)
	low, carry := bits.Add64(low, c, 0)
	high += carry
	low, carry = bits.Add64(low, d, 0)
	return low, high + carry
}

// shiftedUp returns m * 2^count; what goes beyond the words is dropped. count is
// less than the number of bits that the words hold.
func (m magnitude) shiftedUp(count int) magnitude {
	var shifted magnitude
	skip, rest := count/wordBits, count%wordBits
	for i := skip; i < wordCount; i++ {
		shifted[i] = m[i-skip] << rest
		if i > skip {
			shifted[i] |= m[i-skip-1] >> (wordBits - rest)
		}
	}
	return shifted
}

// shiftedDown returns m / 2^count, rounded down. count is less than the number of
// bits that the words hold.
func (m magnitude) shiftedDown(count int) magnitude {
	var shifted magnitude
	skip, rest := count/wordBits, count%wordBits
	for i := skip; i < wordCount; i++ {
		shifted[i-skip] = m[i] >> rest
		if i+1 < wordCount {
			shifted[i-skip] |= m[i+1] << (wordBits - rest)
		}
	}
	return shifted
}
