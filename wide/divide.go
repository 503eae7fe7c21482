package wide

import (
	"math"
	"math/bits"
)

// dividedBy returns m / n, rounded down, and whether there is no remainder. n is
// not 0.
//
// It is the long division of school with words for digits (Knuth's algorithm D).
// Both numbers are shifted until the divisor's first bit is set, because then a
// digit that is estimated from the first words is at most 2 too great.
func (m magnitude) dividedBy(n magnitude) (quotient magnitude, exact bool) {
	length := n.wordLength()
	shift := bits.LeadingZeros64(n[length-1])
	shifted := n.shiftedUp(shift)
	divisor := shifted[:length]
	rest := m.widenedUp(shift)
	for i := m.wordLength() - length; i >= 0; i-- {
		quotient[i] = takeDigit(rest[i:i+length+1], divisor)
	}
	return quotient, rest == [wordCount + 1]uint64{}
}

// widenedUp returns m * 2^count with a word more; count is less than wordBits.
func (m magnitude) widenedUp(count int) [wordCount + 1]uint64 {
	var widened [wordCount + 1]uint64
	shifted := m.shiftedUp(count)
	copy(widened[:], shifted[:])
	widened[wordCount] = m[wordCount-1] >> (wordBits - count)
	return widened
}

// takeDigit returns part / divisor, rounded down, and leaves the remainder in
// part, which has a word more than divisor, and whose quotient is one word.
func takeDigit(part, divisor []uint64) uint64 {
	digit := estimateDigit(part, divisor)
	negative := subtractProduct(part, divisor, digit)
	for negative {
		digit--
		negative = !addBack(part, divisor)
	}
	return digit
}

// estimateDigit divides the first two words of part by the first of divisor.
func estimateDigit(part, divisor []uint64) uint64 {
	last := len(divisor) - 1
	if part[last+1] >= divisor[last] {
		return math.MaxUint64
	}
	digit, _ := bits.Div64(part[last+1], part[last], divisor[last])
	return digit
}

// subtractProduct subtracts divisor * digit from part, and reports whether the
// result is negative (and part its complement).
func subtractProduct(part, divisor []uint64, digit uint64) bool {
	var carry, borrow, low uint64
	for i, word := range divisor {
		low, carry = multiplyAdd(word, digit, carry, 0)
		part[i], borrow = bits.Sub64(part[i], low, borrow)
	}
	last := len(divisor)
	part[last], borrow = bits.Sub64(part[last], carry, borrow)
	return borrow != 0
}

// addBack adds divisor to part, and reports whether a carry ended the borrow that
// subtractProduct left.
func addBack(part, divisor []uint64) bool {
	var carry uint64
	for i, word := range divisor {
		part[i], carry = bits.Add64(part[i], word, carry)
	}
	last := len(divisor)
	part[last], carry = bits.Add64(part[last], 0, carry)
	return carry != 0
}

// squareRoot returns the square root of m, rounded down. Newton's steps from
// above fall until they reach it.
func (m magnitude) squareRoot() magnitude {
	if m.isZero() {
		return m
	}
	root := magnitude{1}.shiftedUp((m.bitLength() + 1) / 2)
	for {
		quotient, _ := m.dividedBy(root)
		better := root.plus(quotient).shiftedDown(1)
		if better.compare(root) >= 0 {
			return root
		}
		root = better
	}
}
