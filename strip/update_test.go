package strip_test

import (
	"sort"
	"strings"
	"testing"

	"alidade/api"
)

// updated is what Update has to return, and the way to it.
type updated struct {
	m    measured
	way  string
	want made
}

func checkUpdates(t *testing.T, list []updated) {
	t.Helper()
	for _, x := range list {
		checkMade(t, "Update", x.m.update(), x.want, x.m)
		if way := checkUpdate(t, x.m); way != x.way {
			t.Errorf("the way of %v is %s, want %s", x.m, way, x.way)
		}
	}
}

func TestP8_2_UpdateOfExamples(t *testing.T) {
	checkUpdates(t, []updated{
		{measured{around(100, 0, sym(2500, 0, 2500)), around(0, 0, sym(1, 0, 1)), 90, 92}, "ball, strip", okay(84, 0, sym(595, 0, 2783))},
		{measured{around(1000, 0, sym(250000, 0, 250000)), around(0, 0, sym(1, 0, 1)), 900, 902}, "ball, strip", okay(833, 0, sym(30285, 0, 229983))},
		{measured{around(30, 40, sym(400, 0, 400)), around(0, 0, sym(4, 0, 9)), 45, 47}, "ball, strip", okay(28, 37, sym(406, -143, 324))},
		{measured{around(-56, 67, sym(3, 1, 3)), around(-2, 21, sym(1, 0, 1)), 72, 74}, "ball, strip", okay(-56, 67, sym(3, 1, 3))},
		{measured{around(108, 107, sym(63962, -66339, 68805)), around(-2, 334, sym(1, -1, 4)), 78, 184}, "ball, strip", okay(-57, 278, sym(14328, -14757, 15406))},
		// The ball is no smaller, and the strip is.
		{measured{around(-353, -218, sym(5, 3, 44)), around(-201, -110, sym(1, 0, 3)), 183, 183}, "ball, strip", okay(-352, -215, sym(15, -7, 30))},
		{measured{around(155, -195, sym(47473, 0, 55961)), around(284, 202, sym(1, 0, 1)), 558, 559}, "ball, strip", okay(127, -297, sym(38703, -11108, 8919))},
		{measured{around(37, 7, sym(29, -25, 23)), around(-19, 56, sym(3, 0, 2)), 70, 71}, "ball, strip", okay(34, 9, sym(20, -7, 19))},
		// Both are.
		{measured{around(-24, 55, sym(2908, -2142, 1578)), around(36, 50, sym(2, -4, 10)), 60, 60}, "ball, strip", okay(1, 36, sym(1703, -1288, 1123))},
		{measured{around(289, 72, sym(62115, 9768, 4869)), around(-220, -309, sym(5, 4, 4)), 410, 456}, "ball, strip", okay(57, 23, sym(4420, -872, 1516))},
		{measured{around(-166, -397, sym(1306, 0, 1276)), around(330, -73, sym(2, 1, 2)), 567, 568}, "ball, strip", okay(-145, -383, sym(370, -397, 714))},
		{measured{around(-49, 4, sym(77641, 0, 8476)), around(11, -23, sym(3, 2, 2)), 238, 238}, "ball, strip", okay(-16, 1, sym(66387, 0, 14154))},
		// The strip is that of the smaller ellipse; that of e itself is another one.
		{measured{around(315, 86, sym(92537, -35819, 22098)), around(289, 299, sym(1, 0, 1)), 333, 333}, "ball, strip", okay(283, 103, sym(80494, -24068, 19213))},
		{measured{around(-138, -339, sym(93952, -43127, 19797)), around(-184, 26, sym(48643, 11238, 12140)), 195, 197}, "ball, strip", okay(-260, -283, sym(79825, -36570, 16947))},
		{measured{around(238, -388, sym(42255, -57637, 78621)), around(249, -30, sym(3, 0, 2)), 351, 351}, "ball, strip", okay(176, -306, sym(11196, -13279, 16793))},
		// Ring of e itself returns ErrEmpty.
		{measured{around(-196, 135, sym(44, -31, 23)), around(367, -305, sym(9, -5, 4)), 702, 702}, "ball, strip", okay(-189, 130, sym(10, 1, 12))},
		{measured{around(-122, -350, sym(12, 16, 24)), around(-205, 6, sym(1, 0, 1)), 359, 359}, "ball, strip", okay(-120, -345, sym(17, 1, 10))},
	})
}

// TestP8_2_UpdateWithoutStrip: both centres are the same, from the beginning or because
// what remains within the ball is the ball itself.
func TestP8_2_UpdateWithoutStrip(t *testing.T) {
	checkUpdates(t, []updated{
		{measured{around(-52, 17, sym(35033, 55866, 89089)), around(-52, 17, sym(3, -2, 2)), 255, 256}, "ball, no strip", okay(-52, 17, sym(19485, 30834, 49321))},
		{measured{around(-1, 1, sym(2, 2, 5)), around(-1, 1, sym(7, 3, 4)), 4, 5}, "ball, no strip", okay(-1, 1, sym(2, 2, 5))},
		{measured{around(3, 4, sym(40000, 0, 40000)), around(0, 0, sym(4, 0, 9)), 5, 7}, "ball, no strip", okay(0, 0, sym(121, 0, 121))},
		{measured{around(-2, -2, sym(26, 31, 39)), around(-1, -1, sym(2, 1, 2)), 1, 3}, "ball, no strip", okay(-1, -1, sym(25, 0, 25))},
		{measured{around(2, -2, sym(51635, 31744, 21260)), around(0, -3, sym(2, 2, 3)), 0, 0}, "ball, no strip", okay(0, -3, sym(9, 0, 9))},
		{measured{around(-2, 4, sym(141, 131, 122)), around(-4, 3, sym(1, 0, 1)), 4, 4}, "ball, no strip", okay(-4, 3, sym(37, 21, 33))},
		{measured{around(1, 3, sym(2972, 1753, 1035)), around(-2, 1, sym(9, 5, 3)), 31, 32}, "ball, no strip", okay(-2, 1, sym(1065, 597, 403))},
		{measured{around(7, 8, sym(mostVar, mostVar-1, mostVar)), around(7, 8, sym(1, 0, 1)), 0, 0}, "ball, no strip", okay(7, 8, sym(4, 0, 4))},
		{measured{around(7, 7, sym(1, 0, 1)), around(7, 7, sym(1, 0, 1)), 3, mostRange}, "no ball, no strip", okay(7, 7, sym(1, 0, 1))},
		{measured{around(-1, 31, sym(2979, 1142, 1326)), around(-1, 31, sym(1, 0, 1)), 40, mostRange}, "no ball, no strip", okay(-1, 31, sym(2979, 1142, 1326))},
	})
}

// TestP8_2_UpdateOfWhatIsTooFarOrTooNear: it is found out by the ball, by Ring, or by Cut.
func TestP8_2_UpdateOfWhatIsTooFarOrTooNear(t *testing.T) {
	checkUpdates(t, []updated{
		{measured{around(-2, -1, sym(32, -22, 16)), around(3, 3, sym(5, 3, 3)), 1, 1}, "ball is empty", empty},
		{measured{around(-8, 8, sym(2628, 0, 1221)), around(12, -40, sym(1, 0, 1)), 3, 5}, "ball is empty", empty},
		// Ring and Cut would leave something.
		{measured{around(-3, 2, sym(75, -398, 2113)), around(2, 2, sym(1, 0, 1)), 0, 0}, "ball is empty", empty},
		{measured{around(2, 6, sym(27016, -25644, 24342)), around(-2, -2, sym(1, 0, 1)), 5, 5}, "ball is empty", empty},
		{measured{around(-14, -16, sym(58, 57, 57)), around(-54, 1, sym(1, 0, 1)), 37, 38}, "ball is empty", empty},
		{measured{around(-15, 7, sym(66, 3, 7)), around(11, -6, sym(2, -4, 9)), 42, 42}, "ball, strip is empty", empty},
		{measured{around(-425, 571, sym(46994, 58314, 90499)), around(775, 567, sym(69474, 11284, 3802)), 1907, 1907}, "ball, strip is empty", empty},
		// Ring of e itself would not.
		{measured{around(-10, 301, sym(2003, 950, 451)), around(348, -154, sym(2, 0, 2)), 565, 566}, "ball, strip is empty", empty},
		{measured{around(0, 3, sym(111, -33, 20)), around(0, -3, sym(1, 0, 1)), 17, 19}, "ball, cut is empty", empty},
		{measured{around(12, -7, sym(90, 0, 4)), around(10, -17, sym(1, -1, 2)), 18, 29}, "ball, cut is empty", empty},
		{measured{around(10, -5, sym(24, -9, 15)), around(15, 2, sym(10, -1, 6)), 17, 17}, "ball, cut is empty", empty},
		{measured{around(53, -49, sym(5, -4, 4)), around(-17, 43, sym(1, 0, 1)), 121, mostRange}, "no ball, strip is empty", empty},
		{measured{around(-1, 3, sym(2, 1, 1)), around(-2, 0, sym(1, 0, 1)), 7, mostRange}, "no ball, cut is empty", empty},
		{measured{around(3, -1, sym(11, 3, 1)), around(1, 2, sym(3, -2, 3)), 9, mostRange}, "no ball, cut is empty", empty},
	})
}

// TestP8_2_UpdateOfWhatTouches: the outer circle, the inner one, or neither.
func TestP8_2_UpdateOfWhatTouches(t *testing.T) {
	n := around(0, 0, sym(1, 0, 1))
	checkUpdates(t, []updated{
		{measured{around(9, 0, sym(25, 0, 25)), n, 0, 3}, "ball, strip", okay(4, 0, sym(14, 0, 14))},
		{measured{around(10, 0, sym(25, 0, 25)), n, 0, 3}, "ball, strip", okay(4, 0, sym(8, 0, 8))},
		{measured{around(11, 0, sym(25, 0, 25)), n, 0, 3}, "ball is empty", empty},
		{measured{around(6, 8, sym(25, 0, 25)), n, 0, 3}, "ball, strip", okay(2, 3, sym(8, 0, 8))},
		{measured{around(6, 8, sym(25, 0, 25)), n, 0, 2}, "ball is empty", empty},
		{measured{around(900, 0, sym(160000, 0, 160000)), n, 0, 499}, "ball, strip", okay(498, 0, sym(502, 0, 502))},
		{measured{around(900, 0, sym(160000, 0, 160000)), n, 0, 498}, "ball, strip", okay(497, 0, sym(20, 0, 20))},
		{measured{around(900, 0, sym(160000, 0, 160000)), n, 0, 497}, "ball is empty", empty},
		{measured{around(900, 0, sym(160000, 0, 160000)), n, 1301, 1301}, "ball, strip", okay(1245, 0, sym(3167, 0, 49076))},
		{measured{around(900, 0, sym(160000, 0, 160000)), n, 1303, 1303}, "ball, strip", okay(1237, 0, sym(4169, 0, 46315))},
		{measured{around(5, 0, sym(9, 0, 9)), n, 9, 12}, "ball, strip", okay(5, 0, sym(9, 0, 9))},
		{measured{around(5, 0, sym(9, 0, 9)), n, 10, 12}, "ball, strip", okay(5, 0, sym(9, 0, 9))},
		{measured{around(5, 0, sym(9, 0, 9)), n, 11, 12}, "ball, strip is empty", empty},
	})
}

// TestP8_2_UpdateOnBothSidesOfMaxRange: an R of exactly MaxRange makes a ball, and one
// above it makes none.
func TestP8_2_UpdateOnBothSidesOfMaxRange(t *testing.T) {
	wide, n := around(4000000, 0, sym(40000000000, 0, 90000000000)), around(0, 0, sym(9, 0, 16))
	tilted, other := around(mostPos, 100000, sym(1000000000000, -300000000000, 200000000000)), around(0, 0, sym(500000000000, 100000000000, 400000000000))
	long, small := around(2000, -3000, sym(mostVar, mostVar-1, mostVar)), around(7, 8, sym(1, 0, 1))
	same := around(7, 8, long.P)
	checkUpdates(t, []updated{
		{measured{wide, n, 4194299, 4194299}, "ball, strip", okay(4184527, 0, sym(147955323, 0, 14287323990))},
		{measured{wide, n, 4194300, 4194300}, "no ball, strip", okay(4184528, 0, sym(147946636, 0, 14286491668))},
		{measured{wide, n, mostRange, mostRange}, "no ball, strip", okay(4184532, 0, sym(147911890, 0, 14283162333))},
		{measured{wide, n, 0, 4194299}, "ball, strip", made{wide, api.OK}},
		{measured{wide, n, 0, 4194300}, "no ball, strip", made{wide, api.OK}},
		{measured{wide, n, 0, mostRange}, "no ball, strip", made{wide, api.OK}},
		{measured{wide, n, 0, 0}, "ball is empty", empty},
		{measured{tilted, other, 0, 3245620}, "ball, strip", okay(3739979, 234225, sym(438196079937, -136346752206, 248870083644))},
		{measured{tilted, other, 0, 3245621}, "no ball, strip", okay(3793645, 219139, sym(359286602975, -111589997593, 232545684046))},
		{measured{tilted, other, 3355443, 3355444}, "no ball, strip", okay(3853813, 201248, sym(435029646124, -134242150201, 244705719373))},
		{measured{long, small, 0, 4194302}, "ball, strip", okay(2506, -2494, sym(9028442793364, 9028440668655, 9028442793364))},
		{measured{long, small, 0, 4194303}, "no ball, strip", made{long, api.OK}},
		{measured{same, small, 4194302, 4194302}, "ball, no strip", okay(7, 8, sym(9028449023240, 9028446898530, 9028449023240))},
		{measured{same, small, 4194303, 4194303}, "no ball, no strip", made{same, api.OK}},
		{measured{around(mostPos, mostPos, sym(mostVar, 0, mostVar)), around(-mostPos, -mostPos, sym(mostVar, 0, mostVar)), 0, 0}, "no ball, strip", okay(2684432, 2684432, sym(59380298273981, -20276195012879, 59380298273981))},
		{measured{around(mostPos, mostPos, sym(1, 0, 1)), around(-mostPos, -mostPos, sym(1, 0, 1)), 0, 4194302}, "ball is empty", empty},
		{measured{around(mostPos, mostPos, sym(1, 0, 1)), around(-mostPos, -mostPos, sym(1, 0, 1)), 0, 4194303}, "no ball, strip is empty", empty},
	})
	from := source(3)
	for range 200 {
		m := from.measured(1<<20, 1<<42)
		m.hi = mostRange - radius(m.n)
		for d := range int64(3) {
			at := measured{m.e, m.n, min(m.lo, m.hi-1+d), m.hi - 1 + d}
			if way := checkUpdate(t, at); strings.HasPrefix(way, "no ball") != (d == 2) {
				t.Errorf("the way of %v is %s", at, way)
			}
		}
	}
}

// TestP8_2_UpdateAgain: the same distance, used again, may still tell something.
func TestP8_2_UpdateAgain(t *testing.T) {
	for _, x := range []struct {
		m    measured
		want []made
	}{
		{measured{around(1000, 0, sym(250000, 0, 250000)), around(0, 0, sym(1, 0, 1)), 900, 902}, []made{okay(833, 0, sym(30285, 0, 229983)), okay(804, 0, sym(29968, 0, 216723)), okay(804, 0, sym(29968, 0, 216723))}},
		{measured{around(100, 0, sym(2500, 0, 2500)), around(0, 0, sym(1, 0, 1)), 90, 92}, []made{okay(84, 0, sym(595, 0, 2783)), okay(84, 0, sym(595, 0, 2783))}},
		{measured{around(-7, 6, sym(146, 31, 7)), around(6, -7, sym(1, 0, 2)), 18, 18}, []made{okay(-3, 7, sym(82, 18, 18)), okay(-3, 7, sym(82, 18, 18))}},
	} {
		for _, want := range x.want {
			checkMade(t, "Update", x.m.update(), want, x.m)
			checkUpdate(t, x.m)
			x.m.e = want.e
		}
	}
}

// TestP8_2_UpdateOfAllLengths: each way is taken often.
func TestP8_2_UpdateOfAllLengths(t *testing.T) {
	from := source(4)
	ways := map[string]int{}
	for k := range 5000 {
		far := int64(8) << (k % 17)
		m := from.measured(far, 1+far*far<<4>>(k%10))
		switch k % 5 {
		case 2:
			m = from.measured(8<<(k%3), 9<<(k%4))
		case 3:
			m = from.measured(8<<(k%3), 9<<(k%4))
			m.hi = mostRange
		case 4:
			m.lo = 0
		}
		ways[checkUpdate(t, m)]++
	}
	for way, least := range map[string]int{
		"ball, strip": 1000, "ball is empty": 250, "ball, no strip": 100, "ball, strip is empty": 300,
		"no ball, strip": 300, "no ball, no strip": 5, "no ball, strip is empty": 100,
	} {
		if ways[way] < least {
			t.Errorf("only %d ways are %s", ways[way], way)
		}
	}
}

// TestP8_2_UpdateOfTheFarthestDistances: Ring is the first to tell that the next distance
// is too great, or Cut is.
func TestP8_2_UpdateOfTheFarthestDistances(t *testing.T) {
	from := source(11)
	ways := map[string]int{}
	for k := range 300 {
		m := from.measured(8<<(k%3), 9<<(k%5))
		m.n.P = from.matrix(3)
		tooFar := sort.Search(mostRange, func(lo int) bool {
			return wantRing(measured{m.e, m.n, int64(lo), mostRange}).errno == api.ErrEmpty
		})
		for lo := max(int64(tooFar)-2, 0); lo <= min(int64(tooFar), mostRange); lo++ {
			ways[checkUpdate(t, measured{m.e, m.n, lo, lo})]++
			ways[checkUpdate(t, measured{m.e, m.n, lo, mostRange})]++
		}
	}
	for _, way := range []string{"ball, strip", "ball, strip is empty", "ball, cut is empty", "no ball, strip", "no ball, strip is empty", "no ball, cut is empty"} {
		if ways[way] == 0 {
			t.Errorf("no way is %s", way)
		}
	}
}

func TestP8_2_UpdateAtTheLimits(t *testing.T) {
	from := source(5)
	for _, e := range limitEllipses() {
		for _, n := range limitEllipses() {
			d := limitDistances()[from.below(len(limitDistances()))]
			checkUpdate(t, measured{e, n, d.lo, d.hi})
		}
	}
	near := around(20, 15, sym(900, 100, 500))
	for _, d := range limitDistances() {
		checkUpdate(t, measured{near, around(0, 0, sym(1, 0, 1)), d.lo, d.hi})
		checkUpdate(t, measured{near, near, d.lo, d.hi})
		checkUpdate(t, measured{around(mostPos, 0, sym(900, 100, 500)), around(0, 0, sym(1, 0, 1)), d.lo, d.hi})
	}
}

func TestP8_2_UpdateOfInvalidArguments(t *testing.T) {
	checkInvalid(t, "Update", func(m measured) api.Errno {
		got := m.update()
		if got.errno != api.OK {
			checkMade(t, "Update", got, made{errno: got.errno}, m)
		}
		return got.errno
	})
}
