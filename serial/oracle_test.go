package serial_test

import "math"

const (
	count = 65536
	half  = 32768
	last  = 65535
)

// stepsFrom returns, for each serial number, the steps to it from a: it goes both ways,
// one number at a time. What is as far both ways is reached forward.
func stepsFrom(a int) []int {
	steps := make([]int, count)
	ahead, behind := a, a
	for n := 1; n < half; n++ {
		ahead, behind = ahead+1, behind-1
		if ahead == count {
			ahead = 0
		}
		if behind == -1 {
			behind = last
		}
		steps[ahead], steps[behind] = n, -n
	}
	if ahead++; ahead == count {
		ahead = 0
	}
	steps[ahead] = half
	return steps
}

// numbers are those at both ends and in the middle, beside powers of 2, and some between.
func numbers() []int {
	list := []int{0, last, 3, 5000, 12345, 40000, 54321, 65000}
	for n := 1; n <= half; n *= 2 {
		list = append(list, n, n+1, last-n)
	}
	for n := 100; n < count; n += 2741 {
		list = append(list, n)
	}
	return list
}

// invalid are no serial numbers; of some, the last 16 bits are those of one that is tested.
func invalid() []int {
	list := []int{
		-1, -2, -5, -100, -32767, -32768, -32769, -65534, -65535, -65536, -65537,
		65536, 65537, 65538, 70000, 98303, 98304, 98305, 131071, 131072, 1 << 20,
		math.MaxInt32 - 1, math.MaxInt32, math.MinInt32, math.MinInt32 + 1, math.MaxUint32,
		math.MaxInt - 1, math.MaxInt, math.MinInt, math.MinInt + 1,
	}
	for _, n := range []int{0, 1, 7, 32767, 32768, 65535} {
		list = append(list, n+1<<16, n-1<<16, n+1<<32, n-1<<32, n+1<<40, n+1<<62, n-1<<62)
	}
	return list
}
