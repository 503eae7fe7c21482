package golden_test

import (
	"errors"
	"math"
	"slices"
	"testing"

	"alidade/golden"
)

func square2(n int) int64 { return int64(n) * int64(n) }

func TestP7_1_BestOfExamples(t *testing.T) {
	for k, x := range []struct {
		values table
		want   found
		asked  []int
	}{
		{all(func(w int) int64 { return square2(w - 9) }), found{9, 0, true}, []int{13, 21, 8, 5, 10, 7, 9}},
		{all(func(w int) int64 { return square2(w - 17) }), found{17, 0, true}, []int{13, 21, 8, 16, 18, 15, 17}},
		{all(func(w int) int64 { return square2(w-24) - 100 }), found{24, -100, true}, []int{13, 21, 26, 29, 24, 23, 25}},
		{all(func(w int) int64 { return int64(w) }), found{1, 1, true}, []int{13, 21, 8, 5, 3, 2, 1}},
		{all(func(w int) int64 { return int64(-w) }), found{33, -33, true}, []int{13, 21, 26, 29, 31, 32, 33}},
		{all(func(w int) int64 { return -7 }), found{1, -7, true}, []int{13, 21, 8, 5, 3, 2, 1}},
		{all(func(w int) int64 { return int64(w / 20) }), found{1, 0, true}, []int{13, 21, 8, 5, 3, 2, 1}},
		{all(func(w int) int64 { return int64(w/14) - int64(w/22) }), found{1, 0, true}, []int{13, 21, 8, 5, 3, 2, 1}},
		{all(func(w int) int64 { return square2(w%13) - square2(w%5) }), found{14, -15, true}, []int{13, 21, 8, 16, 11, 14, 15}},
		// Values are missing at both, at x, and at y.
		{table{}, found{}, []int{13, 21, 8, 5, 3, 2, 1}},
		{table{5: 3, 2: 8, 30: -1}, found{5, 3, true}, []int{13, 21, 8, 5, 3, 6, 4}},
		{table{13: 4}, found{13, 4, true}, []int{13, 21, 8, 16, 11, 14, 12}},
		{table{21: 4}, found{21, 4, true}, []int{13, 21, 26, 18, 23, 20, 22}},
		{table{21: 4, 23: 4, 20: 4}, found{20, 4, true}, []int{13, 21, 26, 18, 23, 20, 19}},
		{table{21: 4, 23: 4, 22: 4}, found{21, 4, true}, []int{13, 21, 26, 18, 23, 20, 22}},
		{table{21: 4, 26: 3, 33: 2, 31: 3}, found{26, 3, true}, []int{13, 21, 26, 29, 24, 27, 25}},
		// Only weights that are not asked have a value.
		{table{0: 1, 4: 1, 17: 1, 22: 1, 33: 1, 34: 1}, found{}, []int{13, 21, 8, 5, 3, 2, 1}},
	} {
		got, asked := watched(x.values.value)
		if got != x.want || !slices.Equal(asked, x.asked) {
			t.Errorf("%d: Best = %v after %v, want %v after %v", k, got, asked, x.want, x.asked)
		}
	}
}

func TestP7_1_BestOfNil(t *testing.T) {
	if got := foundOf(golden.Best(nil)); got != (found{}) {
		t.Errorf("Best(nil) = %v", got)
	}
}

// TestP7_1_BestOfAllAnswers: each answer is one of three values, or none.
func TestP7_1_BestOfAllAnswers(t *testing.T) {
	for n := range 1 << 14 {
		values, rest := table{}, n
		searched(func(w int) (int64, bool) {
			if rest%4 > 0 {
				values[w] = int64(rest % 4)
			}
			rest /= 4
			return values.value(w)
		})
		checkBest(t, values.value, values)
	}
}

// valleys are tables that fall to the weight m, and then rise.
func valleys(m int) []table {
	return []table{
		all(func(w int) int64 { return square2(w - m) }),
		all(func(w int) int64 { return max(int64(w-m), int64(m-w)*1000) }),
		all(func(w int) int64 { return max(int64(w-m)*1000, int64(m-w)) - 50 }),
		all(func(w int) int64 { return max(square2(w)-square2(m), 5*int64(m-w)) + math.MinInt64 + 1 }),
	}
}

func TestP7_1_BestFindsTheLeastOfAValley(t *testing.T) {
	for m := 1; m < weights; m++ {
		for _, values := range valleys(m) {
			want := found{m, values[m], true}
			if got := foundOf(golden.Best(values.value)); got != want {
				t.Errorf("Best of %v = %v, want %v", values, got, want)
			}
			checkBest(t, values.value, values)
		}
	}
}

// TestP7_1_BestOfValleysAtTheEnds: the weights 0 and 34 are not asked.
func TestP7_1_BestOfValleysAtTheEnds(t *testing.T) {
	for _, values := range valleys(0) {
		if got := foundOf(golden.Best(values.value)); got != (found{1, values[1], true}) {
			t.Errorf("Best of %v = %v", values, got)
		}
	}
	for _, values := range valleys(weights) {
		if got := foundOf(golden.Best(values.value)); got != (found{33, values[33], true}) {
			t.Errorf("Best of %v = %v", values, got)
		}
	}
}

// TestP7_1_BestWithMissingValues: at every place, alone and with others.
func TestP7_1_BestWithMissingValues(t *testing.T) {
	for m := range weights + 1 {
		for _, values := range valleys(m) {
			below, above := []int{}, []int{}
			for k := range weights + 1 {
				checkBest(t, values.without(k).value, m, k)
				checkBest(t, values.without(k, 13).value, m, k)
				checkBest(t, values.without(k, 21).value, m, k)
				checkBest(t, values.without(13, k, 21).value, m, k)
				below, above = append(below, k), append(above, weights-k)
				checkBest(t, values.without(below...).value, m, below)
				checkBest(t, values.without(above...).value, m, above)
			}
			checkBest(t, values.without(m-1, m+1).value, m)
			checkBest(t, values.without(m-1, m, m+1).value, m)
			checkBest(t, values.without(m-2, m-1, m+1, m+2).value, m)
		}
	}
}

// TestP7_1_BestOfSingleValues: one weight, or two, have a value.
func TestP7_1_BestOfSingleValues(t *testing.T) {
	for k := range weights + 1 {
		for l := range weights + 1 {
			for _, n := range []int64{-1, 0, 1} {
				checkBest(t, table{k: 0, l: n}.value, k, l, n)
			}
		}
	}
}

// TestP7_1_BestOfTies: few values, so that many weights have the same.
func TestP7_1_BestOfTies(t *testing.T) {
	from := source(1)
	for k := range 20000 {
		values := all(func(w int) int64 { return int64(from.below(2 + k%4)) })
		for range k % 7 {
			values = values.without(from.below(weights + 1))
		}
		checkBest(t, values.value, values)
	}
	for m := range weights + 1 {
		for width := 1; width < 12; width++ {
			checkBest(t, all(func(w int) int64 { return square2(w-m) / int64(width) }).value, m, width)
			checkBest(t, all(func(w int) int64 { return -square2(w-m) / int64(width) }).value, m, width)
		}
	}
}

// TestP7_1_BestOfTheGreatestNumbers: the greatest one is a value, and less than none.
func TestP7_1_BestOfTheGreatestNumbers(t *testing.T) {
	for _, x := range []struct {
		values table
		want   found
	}{
		{all(func(w int) int64 { return math.MaxInt64 }), found{1, math.MaxInt64, true}},
		{all(func(w int) int64 { return math.MinInt64 }), found{1, math.MinInt64, true}},
		{table{13: math.MaxInt64}, found{13, math.MaxInt64, true}},
		{table{21: math.MaxInt64}, found{21, math.MaxInt64, true}},
		{table{13: math.MaxInt64, 21: math.MinInt64}, found{21, math.MinInt64, true}},
		{table{13: math.MinInt64, 21: math.MaxInt64}, found{13, math.MinInt64, true}},
		{table{13: 1, 21: math.MinInt64, 18: math.MinInt64}, found{18, math.MinInt64, true}},
		{table{0: math.MinInt64, 34: math.MinInt64, 1: math.MaxInt64}, found{1, math.MaxInt64, true}},
	} {
		if got := foundOf(golden.Best(x.values.value)); got != x.want {
			t.Errorf("Best of %v = %v, want %v", x.values, got, x.want)
		}
		checkBest(t, x.values.value, x.values)
	}
	from := source(2)
	for range 5000 {
		values := all(func(w int) int64 { return int64(from.word()) })
		checkBest(t, values.value, values)
	}
}

// TestP7_1_BestAsksSevenWeights, none of them twice, and neither 0 nor 34.
func TestP7_1_BestAsksSevenWeights(t *testing.T) {
	from := source(3)
	for range 5000 {
		values := all(func(w int) int64 { return int64(from.below(9)) }).without(from.below(weights), from.below(weights))
		_, asked := watched(values.value)
		sorted := slices.Sorted(slices.Values(asked))
		if len(asked) != 7 || len(slices.Compact(sorted)) != 7 || sorted[0] < 1 || sorted[6] >= weights || asked[0] != 13 || asked[1] != 21 {
			t.Errorf("Best asks %v", asked)
		}
	}
}

// TestP7_1_BestOfFunctionsThatPanic: a weight for which f panics has no value (R3).
func TestP7_1_BestOfFunctionsThatPanic(t *testing.T) {
	panics := []func(){
		func() { panic("no value") },
		func() { panic(errors.New("no value")) },
		func() { panic(nil) },
		func() { table(nil)[0] = 1 },
	}
	from := source(4)
	for k := range 2000 {
		values := all(func(w int) int64 { return int64(from.below(20)) })
		for range k % 30 {
			values = values.without(from.below(weights + 1))
		}
		got, asked := watched(func(w int) (int64, bool) {
			if _, has := values[w]; !has {
				panics[k%4]()
			}
			return values.value(w)
		})
		if want, order := searched(values.value); got != want || !slices.Equal(asked, order) {
			t.Errorf("Best = %v after %v, want %v after %v", got, asked, want, order)
		}
	}
	for _, f := range panics {
		if got := foundOf(golden.Best(func(w int) (int64, bool) { f(); return 5, true })); got != (found{}) {
			t.Errorf("Best = %v though f always panics", got)
		}
	}
}

// TestP7_1_BestKeepsNothing: a search within another one does not disturb it (R2).
func TestP7_1_BestKeepsNothing(t *testing.T) {
	for m := 1; m < weights; m++ {
		checkBest(t, func(w int) (int64, bool) {
			inner, _, _ := golden.Best(func(v int) (int64, bool) { return square2(v - w), v > 0 })
			return square2(inner - m), true
		}, m)
	}
}
