package turn_test

import (
	"math"
	"slices"
	"testing"

	"alidade/api"
	"alidade/turn"
)

func checkPath(t *testing.T, l []api.Point, k int, want way) {
	t.Helper()
	if got := wayOf(turn.Path(l, k)); got != want {
		t.Errorf("Path(%v, %d) = %v, want %v", l, k, got, want)
	}
}

func okay(x, y int64) way { return way{at(x, y), true} }

func repeated(p api.Point, length int) []api.Point { return slices.Repeat([]api.Point{p}, length) }

func TestP9_2_PathExamples(t *testing.T) {
	const most = mostRange
	for _, x := range []struct {
		l    []api.Point
		k    int
		want way
	}{
		{nil, 0, okay(0, 0)},
		{nil, -7, okay(0, 0)},
		{[]api.Point{}, math.MinInt, okay(0, 0)},
		{[]api.Point{at(3, 4)}, 0, okay(3, 4)},
		{[]api.Point{at(3, 4)}, 1, okay(-4, 3)},
		{[]api.Point{at(3, 4)}, 2, okay(-3, -4)},
		{[]api.Point{at(3, 4)}, 3, okay(4, -3)},
		{[]api.Point{at(3, 4)}, -1, okay(4, -3)},
		{[]api.Point{at(3, 4)}, math.MaxInt, okay(4, -3)},
		{[]api.Point{at(1, 0), at(5, 0)}, 1, okay(-5, 1)},
		{[]api.Point{at(1, 0), at(5, 0), at(7, 0)}, 1, okay(-5, -6)},
		{[]api.Point{at(1, 0), at(5, 0), at(7, 0), at(20, 0)}, 1, okay(15, -6)},
		{[]api.Point{at(1, 0), at(5, 0), at(7, 0), at(20, 0), at(100, 0)}, 1, okay(15, 94)},
		{[]api.Point{at(1, 0), at(5, 0), at(7, 0)}, 2, okay(-3, 0)},
		{[]api.Point{at(1, 0), at(5, 0), at(7, 0)}, -1, okay(-5, 6)},
		{[]api.Point{at(1, 0), at(5, 0), at(7, 0)}, math.MinInt, okay(13, 0)},
		{[]api.Point{at(1, 2), at(-30, 40), at(500, -600)}, math.MaxInt, okay(632, 459)},
		{[]api.Point{at(most, -most)}, 0, okay(most, -most)},
		{[]api.Point{at(most, -most)}, 1, okay(most, most)},
		{[]api.Point{at(most, 0), at(1, 0)}, 2, okay(1-most, 0)},
		{repeated(at(1, 0), 64), 0, okay(64, 0)},
		{repeated(at(1, 0), 63), 0, okay(63, 0)},
		{repeated(at(1, 0), 63), 1, okay(-1, 0)},
		{repeated(at(1, 0), 64), 1, okay(0, 0)},
		{repeated(at(65536, -65536), 64), 0, okay(4194304, -4194304)},
	} {
		checkPath(t, x.l, x.k, x.want)
	}
}

func TestP9_2_PathEndsAfter64Elements(t *testing.T) {
	for _, rest := range [][]api.Point{
		{at(1, 0)}, {at(0, 1), at(5, 5)}, {at(mostRange, 0)}, {at(mostRange+1, 0)}, {at(0, math.MinInt64)},
		repeated(at(7, 7), 64), repeated(at(math.MaxInt64, 1), 500),
	} {
		checkPath(t, append(repeated(at(1, 0), 64), rest...), 0, okay(64, 0))
		checkPath(t, append(repeated(at(3, 0), 64), rest...), 1, okay(0, 0))
		checkPath(t, append(repeated(at(1, 2), 64), rest...), 2, okay(0, 0))
		checkPath(t, append(repeated(at(65536, 65536), 64), rest...), 4, okay(4194304, 4194304))
		checkPath(t, append(repeated(at(65536, 65537), 64), rest...), 0, noWay)
	}
}

func TestP9_2_PathWithAnElementThatIsNoStep(t *testing.T) {
	for _, p := range noSteps() {
		for _, k := range []int{0, 1, 2, -1} {
			checkPath(t, []api.Point{p}, k, noWay)
			checkPath(t, []api.Point{p, at(-p.X, -p.Y)}, k, noWay)
			checkPath(t, repeated(p, 4), k, noWay)
			for _, index := range []int{0, 1, 2, 31, 62, 63, 64, 65, 99} {
				l := repeated(at(1, 1), 100)
				l[index] = p
				if index < 64 {
					checkPath(t, l, k, noWay)
				} else {
					checkPath(t, l, k, wantPath(repeated(at(1, 1), 64), k))
				}
			}
		}
	}
}

func TestP9_2_PathWithASumThatIsNoStep(t *testing.T) {
	const most = mostRange
	for _, l := range [][]api.Point{
		{at(most, 0), at(1, 0)}, {at(-most, 0), at(-1, 0)}, {at(0, most), at(0, 1)}, {at(0, -most), at(0, -1)},
		{at(most, most), at(-5, 1)}, {at(most, most), at(1, -5)}, {at(2097152, 0), at(2097153, 0)},
		repeated(at(65537, 0), 64), repeated(at(0, -65537), 64), repeated(at(most, most), 64), repeated(at(-most, -most), 64),
	} {
		checkPath(t, l, 0, noWay)
		checkPath(t, l, -4, noWay)
	}
	checkPath(t, []api.Point{at(most, 0), at(-1, 0)}, 2, noWay)
	checkPath(t, []api.Point{at(most, 0), at(0, -1)}, 1, noWay)
	checkPath(t, []api.Point{at(most, 0), at(1, 0)}, 1, okay(-1, most))
	checkPath(t, []api.Point{at(most, 0), at(0, 0), at(-1, 0)}, 1, noWay)
	checkPath(t, []api.Point{at(most, 0), at(0, 0), at(1, 0)}, 1, okay(0, most-1))
}

func TestP9_2_PathOnWhoseWayTheSumIsNoStep(t *testing.T) {
	const most = mostRange
	checkPath(t, []api.Point{at(most, 0), at(most, 5), at(-most, 0)}, 0, okay(most, 5))
	checkPath(t, []api.Point{at(-most, -most), at(-1, -1), at(1, 1)}, 0, okay(-most, -most))
	there, back := repeated(at(most, -most), 32), repeated(at(-most, most), 32)
	checkPath(t, append(there, back...), 0, okay(0, 0))
	checkPath(t, append(slices.Clone(there), back[:31]...), 0, okay(most, -most))
	checkPath(t, append(slices.Clone(there), back[:30]...), 0, noWay)
}

func TestP9_2_PathOfAllLists(t *testing.T) {
	from := source(8)
	refused := 0
	for range 30000 {
		l, k := from.list(from.below(80), mostRange>>from.below(23)), from.turn()
		if from.below(4) == 0 && len(l) > 0 {
			l[from.below(len(l))] = noSteps()[from.below(len(noSteps()))]
		}
		want := wantPath(l, k)
		if !want.ok {
			refused++
		}
		checkPath(t, l, k, want)
	}
	if refused < 3000 || refused > 27000 {
		t.Errorf("%d of 30000 are refused", refused)
	}
	for _, k := range turns() {
		l := from.list(70, 5000)
		checkPath(t, l, k, wantPath(l, k))
	}
}

func TestP9_2_PathNeitherReadsBeyondTheListNorChangesIt(t *testing.T) {
	whole := append(repeated(at(1, 0), 10), repeated(at(math.MaxInt64, 5), 10)...)
	before := slices.Clone(whole)
	checkPath(t, whole[:10], 0, okay(10, 0))
	checkPath(t, whole[:10], 1, okay(-1, 1))
	checkPath(t, whole[:0], 3, okay(0, 0))
	checkPath(t, whole, 0, noWay)
	if !slices.Equal(whole, before) {
		t.Errorf("the list has become %v", whole)
	}
}

func TestP9_3_PathOfFourQuarterTurns(t *testing.T) {
	for _, p := range append(steps(), someSteps(9, 1000)...) {
		checkPath(t, []api.Point{p}, 1, way{turn.Quarter(p, 1), true})
		checkPath(t, repeated(p, 4), 1, okay(0, 0))
		checkPath(t, repeated(p, 4), -1, okay(0, 0))
		checkPath(t, repeated(p, 64), math.MaxInt, okay(0, 0))
	}
}
