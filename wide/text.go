package wide

import "strings"

const (
	hexDigits     = "0123456789abcdef"
	digitBits     = 4
	digitsPerWord = wordBits / digitBits
	overText      = "over"
	maxTextBytes  = 300
)

// Text returns a in hexadecimal digits, or "over".
func Text(a Int) string {
	if a.over {
		return overText
	}
	length := max(1, (a.size.bitLength()+digitBits-1)/digitBits)
	text := make([]byte, 0, length+1)
	if a.negative {
		text = append(text, '-')
	}
	for place := length - 1; place >= 0; place-- {
		text = append(text, hexDigits[a.size.digit(place)])
	}
	return string(text)
}

// digit returns the hexadecimal digit at a place, counted from the last digit.
func (m magnitude) digit(place int) uint64 {
	return m[place/digitsPerWord] >> (digitBits * (place % digitsPerWord)) & (1<<digitBits - 1)
}

// Parse returns the number whose Text is s.
func Parse(s string) (Int, bool) {
	if len(s) > maxTextBytes {
		return Int{}, false
	}
	digits, negative := strings.CutPrefix(s, "-")
	if strings.HasPrefix(digits, "0") && s != "0" {
		return Int{}, false
	}
	size, ok := parseDigits(digits)
	if !ok {
		return Int{}, false
	}
	a := signed(size, negative)
	if a.over {
		return Int{}, false
	}
	return a, true
}

// parseDigits returns the number of at least one digit, and false if the words do
// not hold it.
func parseDigits(digits string) (magnitude, bool) {
	if digits == "" || len(digits) > wordCount*digitsPerWord {
		return magnitude{}, false
	}
	var size magnitude
	for i := range len(digits) {
		value, ok := digitValue(digits[i])
		if !ok {
			return magnitude{}, false
		}
		place := len(digits) - 1 - i
		size[place/digitsPerWord] |= value << (digitBits * (place % digitsPerWord))
	}
	return size, true
}

func digitValue(c byte) (uint64, bool) {
	switch {
	case '0' <= c && c <= '9':
		return uint64(c - '0'), true
	case 'a' <= c && c <= 'f':
		return uint64(c-'a') + 10, true
	}
	return 0, false
}
