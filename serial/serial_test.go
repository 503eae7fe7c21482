package serial_test

import (
	"testing"

	"alidade/serial"
)

func checkDiff(t *testing.T, a, b, want int) {
	t.Helper()
	if got := serial.Diff(a, b); got != want {
		t.Errorf("Diff(%d, %d) = %d, want %d", a, b, got, want)
	}
}

func checkLess(t *testing.T, a, b int, want bool) {
	t.Helper()
	if got := serial.Less(a, b); got != want {
		t.Errorf("Less(%d, %d) = %v, want %v", a, b, got, want)
	}
}

func checkNext(t *testing.T, s, want int) {
	t.Helper()
	if got := serial.Next(s); got != want {
		t.Errorf("Next(%d) = %d, want %d", s, got, want)
	}
}

func TestP10_1_MayOfAllSerialNumbers(t *testing.T) {
	for s := 0; s <= 65535; s++ {
		if !serial.May(s) {
			t.Errorf("May(%d) = false, want true", s)
		}
	}
}

func TestP10_1_MayOfOtherNumbers(t *testing.T) {
	refuse := func(s int) {
		if serial.May(s) {
			t.Errorf("May(%d) = true, want false", s)
		}
	}
	for _, s := range invalid() {
		refuse(s)
	}
	for n := range 200000 {
		refuse(-1 - n)
		refuse(65536 + n)
	}
}

func TestP10_1_NextExamples(t *testing.T) {
	for s, want := range map[int]int{
		0: 1, 1: 2, 254: 255, 255: 256, 256: 257, 32766: 32767, 32767: 32768, 32768: 32769, 65533: 65534, 65534: 65535, 65535: 0,
	} {
		checkNext(t, s, want)
	}
}

func TestP10_1_NextGoesThroughAllNumbers(t *testing.T) {
	for s := range 65535 {
		checkNext(t, s, s+1)
	}
	checkNext(t, 65535, 0)
}

func TestP10_1_NextIs0IfItIsNotValid(t *testing.T) {
	for _, s := range invalid() {
		checkNext(t, s, 0)
	}
}

func TestP10_1_DiffAndLessExamples(t *testing.T) {
	for _, x := range []struct {
		a, b, steps int
		less        bool
	}{
		{0, 0, 0, false}, {7, 7, 0, false}, {32768, 32768, 0, false}, {65535, 65535, 0, false},
		{0, 1, 1, true}, {1, 0, -1, false}, {5, 9, 4, true}, {9, 5, -4, false},
		{65535, 0, 1, true}, {0, 65535, -1, false}, {65534, 3, 5, true}, {3, 65534, -5, false},
		{0, 32767, 32767, true}, {32767, 0, -32767, false}, {0, 32768, 32768, false}, {32768, 0, 32768, false},
		{0, 32769, -32767, false}, {32769, 0, 32767, true}, {1, 32768, 32767, true}, {32768, 1, -32767, false},
		{1, 32769, 32768, false}, {32769, 1, 32768, false}, {32767, 65535, 32768, false}, {65535, 32767, 32768, false},
		{65535, 32766, 32767, true}, {32766, 65535, -32767, false}, {65535, 32768, -32767, false}, {32768, 65535, 32767, true},
		{40000, 5000, 30536, true}, {5000, 40000, -30536, false}, {10000, 42768, 32768, false}, {42768, 10000, 32768, false},
	} {
		checkDiff(t, x.a, x.b, x.steps)
		checkLess(t, x.a, x.b, x.less)
	}
}

func TestP10_1_DiffAndLessToAllNumbers(t *testing.T) {
	for _, a := range numbers() {
		for b, steps := range stepsFrom(a) {
			checkDiff(t, a, b, steps)
			checkLess(t, a, b, steps > 0 && steps < 32768)
		}
	}
}

func TestP10_1_DiffAndLessFromAllNumbers(t *testing.T) {
	for a := range 65536 {
		for steps, b := range map[int]int{
			0: a, 1: a + 1, -1: a - 1, 63: a + 63, -64: a - 64, 32766: a + 32766, 32767: a + 32767, 32768: a + 32768, -32767: a + 32769, -32766: a + 32770,
		} {
			b = (b + 65536) % 65536
			checkDiff(t, a, b, steps)
			checkLess(t, a, b, steps > 0 && steps < 32768)
		}
	}
}

func TestP10_1_DiffIs0AndLessIsFalseIfOneIsNotValid(t *testing.T) {
	for _, s := range invalid() {
		for _, a := range numbers() {
			checkDiff(t, a, s, 0)
			checkDiff(t, s, a, 0)
			checkLess(t, a, s, false)
			checkLess(t, s, a, false)
		}
		for _, r := range invalid() {
			checkDiff(t, r, s, 0)
			checkLess(t, r, s, false)
		}
	}
}

func TestP10_2_ExactlyOneOfTwoIsLess(t *testing.T) {
	for _, a := range numbers() {
		for b := range 65536 {
			forward, backward := serial.Less(a, b), serial.Less(b, a)
			isOpposite := a-b == 32768 || b-a == 32768
			if a == b || isOpposite {
				if forward || backward {
					t.Errorf("Less(%d, %d) = %v and Less(%d, %d) = %v, want false for both", a, b, forward, b, a, backward)
				}
			} else if forward == backward {
				t.Errorf("Less(%d, %d) and Less(%d, %d) are both %v", a, b, b, a, forward)
			}
		}
	}
}

func TestP10_2_TheNextNumberIsGreater(t *testing.T) {
	for s := range 65536 {
		checkLess(t, s, serial.Next(s), true)
		checkLess(t, serial.Next(s), s, false)
		checkDiff(t, s, serial.Next(s), 1)
	}
}
