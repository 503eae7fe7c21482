package golden_test

import (
	"strings"
	"testing"

	"alidade/api"
	"alidade/ellip"
	"alidade/golden"
)

// fusion is what Fuse has to return, and what info.Fuse returns for the weights that are
// asked.
type fusion struct {
	e, f   api.Ellipse
	errors string
	want   made
}

func checkFusions(t *testing.T, fusions []fusion) {
	t.Helper()
	for _, x := range fusions {
		checkMade(t, "Fuse", madeOf(golden.Fuse(x.e, x.f)), x.want, x.e, x.f)
		checkErrors(t, checkFuse(t, x.e, x.f), x.errors, x.e, x.f)
	}
}

// cut is what Cut has to return, and what info.Cut returns for the weights that are
// asked.
type cut struct {
	e      api.Ellipse
	s      api.Strip
	errors string
	want   made
}

func checkCuts(t *testing.T, cuts []cut) {
	t.Helper()
	for _, x := range cuts {
		checkMade(t, "Cut", madeOf(golden.Cut(x.e, x.s)), x.want, x.e, x.s)
		checkErrors(t, checkCut(t, x.e, x.s), x.errors, x.e, x.s)
	}
}

// checkErrors holds that an example is one of what it stands for.
func checkErrors(t *testing.T, got, want string, arguments ...any) {
	t.Helper()
	if got != want {
		t.Errorf("the errors of %v are %s, want %s", arguments, got, want)
	}
}

// checkFuse returns what info.Fuse returns for the weights that are asked.
func checkFuse(t *testing.T, e, f api.Ellipse) string {
	t.Helper()
	mix := fusing(e, f)
	checkMade(t, "Fuse", madeOf(golden.Fuse(e, f)), mix.chosen(e, f), e, f)
	return mix.errors()
}

// checkCut returns what info.Cut returns for the weights that are asked.
func checkCut(t *testing.T, e api.Ellipse, s api.Strip) string {
	t.Helper()
	mix := cutting(e, s)
	checkMade(t, "Cut", madeOf(golden.Cut(e, s)), mix.chosen(e), e, s)
	return mix.errors()
}

func TestP7_2_FuseOfExamples(t *testing.T) {
	checkFusions(t, []fusion{
		{around(-3, 0, sym(25, 0, 25)), around(3, 0, sym(25, 0, 25)), ".......", okay(-3, 0, sym(25, 0, 25))},
		{around(2, 3, sym(25, 12, 10)), around(4, 1, sym(30, -7, 12)), ".......", okay(2, 3, sym(25, 12, 10))},
		{around(5, -4, sym(45, 31, 36)), around(2, 5, sym(59, -9, 22)), ".......", okay(7, 1, sym(10, 0, 10))},
		{around(-7, 0, sym(337, 119, 91)), around(-4, 3, sym(252, -58, 176)), ".......", okay(-4, 2, sym(260, 43, 112))},
		{around(100, -50, sym(10000, 9000, 9000)), around(70, -80, sym(400, -100, 2500)), ".......", okay(70, -78, sym(612, 295, 1622))},
		{around(0, 0, sym(1000000, 0, 100)), around(1, 1, sym(100, 0, 1000000)), ".......", okay(1, 0, sym(235, 0, 235))},
		{around(-8, 7, sym(98, 56, 57)), around(-1, 6, sym(76, 36, 79)), ".......", okay(-4, 8, sym(84, 39, 64))},
		{around(4194304, -4194304, sym(70355393522627, -135768601, 262)), around(-482585, -4194304, sym(11623837714583, -147462435442, 1870739286)), ".......", okay(-483297, -4194295, sym(185, -2, 13))},
		{around(1, 1, sym(mostVar, mostVar-1, mostVar)), around(3, -4, sym(mostVar, 1-mostVar, mostVar)), ".......", okay(0, -1, sym(12, -4, 12))},
		{around(4193741, 4193809, sym(1802296076946, 2100369489591, 2447739885382)), around(4193849, 4193905, sym(81767775565, 348761732628, 1487563350057)), ".......", okay(4193859, 4193946, sym(10, 4, 20))},
		// One is within the other.
		{around(0, 0, sym(100, 0, 100)), around(0, 0, sym(1, 0, 1)), ".......", okay(0, 0, sym(1, 0, 1))},
		{around(0, 0, sym(1, 0, 1)), around(0, 0, sym(100, 0, 100)), ".......", okay(0, 0, sym(1, 0, 1))},
		{around(10, 20, sym(2500, 700, 900)), around(12, 23, sym(9, -4, 16)), ".......", okay(12, 23, sym(9, -4, 16))},
		{around(0, 0, sym(40000, 0, 40000)), around(50, 60, sym(10000, 0, 10000)), ".......", okay(50, 60, sym(10000, 0, 10000))},
		{around(5, 5, sym(1099511627776, 549755813888, 1099511627776)), around(5, 5, sym(274877906944, 137438953472, 274877906944)), ".......", okay(5, 5, sym(274877906944, 137438953472, 274877906944))},
		// They touch in one point, or do not meet by little.
		{around(-5, 0, sym(25, 0, 25)), around(5, 0, sym(25, 0, 25)), ".......", okay(1, 0, sym(8, 0, 8))},
		{around(0, 0, sym(25, 0, 25)), around(6, 8, sym(25, 0, 25)), ".......", okay(4, 5, sym(8, 0, 8))},
		{around(-13, 0, sym(169, 0, 169)), around(21, 0, sym(441, 0, 441)), ".......", okay(0, 0, sym(6, 0, 6))},
		{around(-13, 0, sym(169, 0, 169)), around(22, 0, sym(441, 0, 441)), "E...E.E", empty},
		{around(21, 0, sym(441, 0, 441)), around(-13, 0, sym(169, 0, 169)), ".......", okay(0, 0, sym(6, 0, 6))},
		{around(-1300, 0, sym(1690000, 0, 1690000)), around(2100, 0, sym(4410000, 0, 4410000)), ".......", okay(0, 0, sym(6, 0, 6))},
		{around(-1300, 0, sym(1690000, 0, 1690000)), around(2101, 0, sym(4410000, 0, 4410000)), "E......", empty},
	})
}

// TestP7_2_FuseOfEqualTraces: of those of e, of the fused ellipse and of f, and of the
// fused ellipses of several weights.
func TestP7_2_FuseOfEqualTraces(t *testing.T) {
	checkFusions(t, []fusion{
		{around(4, 7, sym(9, -24, 166)), around(3, -7, sym(90, -104, 304)), ".......", okay(4, 7, sym(9, -24, 166))},
		{around(5, 2, sym(12, 1, 26)), around(2, 5, sym(28, 0, 3)), ".......", okay(2, 5, sym(28, 0, 3))},
		{around(-4, 3, sym(13, 0, 9)), around(1, 7, sym(8, 3, 12)), ".......", okay(-1, 5, sym(10, 0, 10))},
		{around(-7, 6, sym(86, -170, 387)), around(-6, 3, sym(55, 20, 43)), ".......", okay(-6, 3, sym(41, -4, 57))},
		{around(-1, 6, sym(14, -6, 7)), around(-3, 3, sym(20, 1, 1)), ".......", okay(-1, 6, sym(14, -6, 7))},
		{around(-3, 3, sym(20, 1, 1)), around(-1, 6, sym(14, -6, 7)), ".......", okay(-3, 3, sym(20, 1, 1))},
		{around(-2, 2, sym(2, 2, 5)), around(-1, 2, sym(6, -2, 1)), ".......", okay(-2, 2, sym(2, 2, 5))},
		{around(-1, 2, sym(6, -2, 1)), around(-2, 2, sym(2, 2, 5)), ".......", okay(-1, 2, sym(6, -2, 1))},
		{around(-6, -6, sym(77, 46, 64)), around(-7, 1, sym(61, -58, 90)), ".......", okay(-4, -3, sym(42, -8, 47))},
		{around(3, -8, sym(146, -34, 367)), around(-5, 7, sym(182, 31, 87)), ".......", okay(-2, 5, sym(130, 10, 113))},
		{around(7, -8, sym(101, -28, 173)), around(-6, -5, sym(335, 166, 177)), ".......", okay(3, -3, sym(113, 14, 120))},
	})
}

func TestP7_2_FuseOfEllipsesThatDoNotMeet(t *testing.T) {
	checkFusions(t, []fusion{
		// One of the weights that are asked tells it, each one in turn.
		{around(-4, 0, sym(1, 1, 4)), around(-7, 4, sym(12, 4, 24)), "E......", empty},
		{around(7, 5, sym(313, -59, 96)), around(-7, -2, sym(5, 0, 2)), ".E.....", empty},
		{around(-4, 4, sym(56, -51, 67)), around(-7, 1, sym(6, -5, 6)), "..E....", empty},
		{around(2, 4, sym(27, 10, 11)), around(3, -1, sym(3, -2, 5)), "...E...", empty},
		{around(6, 7, sym(1, -1, 2)), around(-8, -5, sym(322, 29, 227)), "....E..", empty},
		{around(-2, 6, sym(51, 38, 59)), around(8, -2, sym(47, 64, 400)), ".....E.", empty},
		{around(0, -7, sym(1, 0, 3)), around(3, 8, sym(375, 36, 175)), "......E", empty},
		// All of them tell it.
		{around(-3, 0, sym(25, 0, 25)), around(30, 0, sym(25, 0, 25)), "EEEEEEE", empty},
		{around(-7, -1, sym(5, 2, 5)), around(5, -4, sym(5, -1, 2)), "EEEEEEE", empty},
		{around(-4194304, -3491669, sym(6050, 38765792, 248394495191)), around(-4194304, 4194304, sym(40, 1578101, 62260100759)), "EEEEEEE", empty},
		// Only weights that are not asked would tell it.
		{around(6, -8, sym(50, -46, 80)), around(3, 2, sym(3, -1, 3)), ".......", okay(3, 2, sym(3, -1, 3))},
		{around(1, -7, sym(82, -43, 52)), around(-6, 1, sym(6, 4, 3)), ".......", okay(-6, 1, sym(6, 4, 3))},
		{around(4, 1, sym(6, 1, 3)), around(7, 4, sym(3, 2, 2)), ".......", okay(7, 4, sym(3, 2, 2))},
		{around(-4, -7, sym(3, -1, 2)), around(-8, -5, sym(6, -1, 5)), ".......", okay(-4, -7, sym(3, -1, 2))},
		// Some are over.
		{around(4193583, 4193874, sym(3335947177844, -33039833, 1268)), around(-4194304, 4194304, sym(37815461978, 20964269914, 12055520370)), "EEEEEEO", empty},
		{around(4194169, -2566648, sym(12230789651962, 202264617721, 3344916947)), around(-4194304, -3010636, sym(39043860425, -131245774875, 441182127872)), "EEEEOOO", empty},
	})
}

// TestP7_2_FuseOfEllipsesThatAreOver: for some weights, or for all.
func TestP7_2_FuseOfEllipsesThatAreOver(t *testing.T) {
	checkFusions(t, []fusion{
		{around(0, 0, sym(mostVar, 0, mostVar)), around(0, 0, sym(mostVar, 0, mostVar)), "OOOOOOO", okay(0, 0, sym(mostVar, 0, mostVar))},
		{around(0, 0, sym(mostVar, 0, mostVar)), around(5, 5, sym(mostVar, 0, mostVar)), "OOOOOOO", okay(0, 0, sym(mostVar, 0, mostVar))},
		{around(0, 0, sym(mostVar, 0, mostVar)), around(0, 0, sym(mostVar, 0, mostVar-1)), "OOOOOOO", okay(0, 0, sym(mostVar, 0, mostVar-1))},
		{around(0, 0, sym(mostVar, 0, mostVar-1)), around(0, 0, sym(mostVar, 0, mostVar)), "OOOOOOO", okay(0, 0, sym(mostVar, 0, mostVar-1))},
		{around(0, 0, sym(mostVar, 0, mostVar)), around(0, 0, sym(70368677068800, 0, 70368677068800)), ".......", okay(0, 0, sym(70368677068800, 0, 70368677068800))},
		{around(0, 0, sym(70368710623232, 0, 70368710623232)), around(0, 0, sym(mostVar, 0, mostVar)), "O......", okay(0, 0, sym(70368710623232, 0, 70368710623232))},
		{around(-4194304, 3505345, sym(53062625408186, 417251092, 3281)), around(-4194304, 4193875, sym(271043862812, 962617018208, 4735955296166)), "OOOOOOO", okay(-4194304, 4193875, sym(271043862812, 962617018208, 4735955296166))},
		{around(4194139, 4194304, sym(42941768475, -37623079, 96782449)), around(4193362, 4193598, sym(2, 380388, 72347820633)), "...O...", okay(4193362, 4194304, sym(5425, 617, 117473456))},
		{around(4194304, 4193769, sym(6499, 2800471, 2877841411)), around(4193785, 4194304, sym(6339407698, -131852075, 2742365)), "OOOOOO.", okay(4194304, 4194293, sym(129196, -2684, 241))},
		{around(-54186, 4194142, sym(32754709593776, -932735354265, 1197472622218)), around(-3387948, 4193558, sym(15923430759, 2376369939, 6661371908)), ".O.....", okay(-3387948, 4193558, sym(15923430759, 2376369939, 6661371908))},
	})
}

func TestP7_2_CutOfExamples(t *testing.T) {
	checkCuts(t, []cut{
		{around(0, 0, sym(1000000, 0, 100)), strip(at(0, 0), at(1, 0), -1, 1), ".......", okay(0, 0, sym(25, 0, 139))},
		{around(-4, 0, sym(382, 72, 224)), strip(at(7, 5), at(5, 0), -21, 36), ".......", okay(6, 2, sym(105, 16, 248))},
		{around(-5, 3, sym(327, 190, 161)), strip(at(6, -4), at(2, 5), -13, 34), ".......", okay(-5, 3, sym(143, 0, 51))},
		{around(-3, -1, sym(38, 28, 88)), strip(at(-1, -3), at(-3, -4), -43, -8), ".......", okay(-1, 2, sym(44, -8, 51))},
		{around(100, -50, sym(10000, 9000, 9000)), strip(at(70, -80), at(7, 24), -500, 900), ".......", okay(77, -72, sym(2268, 563, 1055))},
		{around(4194304, -4194304, sym(149095650168, -162035501721, 176098389111)), strip(at(4194304, -4194304), at(-1, 4513945), -2, 116707), ".......", okay(4194304, -4194304, sym(8, -2, 8))},
		{around(-4194304, 4194304, sym(24933, -159392125, 1018964812719)), strip(at(-4194304, 4193781), at(12, -7), 3, 962), ".......", okay(-4194304, 4193712, sym(41, -2, 5010))},
		{around(0, 0, sym(mostVar, 0, mostVar)), strip(at(0, 0), at(mostH, 0), -mostLo, mostLo), "OOOOOOO", okay(0, 0, sym(mostVar, 0, mostVar))},
		{around(0, 0, sym(mostVar, 0, mostVar)), strip(at(0, 0), at(mostH, 0), -mostLo, -1125899906842623), "EEEEEEE", empty},
		{around(0, 0, sym(1, 0, 1)), strip(at(0, 0), at(1, 0), -1, 1), ".......", okay(0, 0, sym(1, 0, 1))},
		// They touch in one point, or do not meet by little.
		{around(0, 0, sym(25, 0, 25)), strip(at(0, 0), at(3, 4), 25, 26), ".......", okay(3, 4, sym(8, -2, 8))},
		{around(0, 0, sym(25, 0, 25)), strip(at(0, 0), at(3, 4), -30, -25), ".......", okay(-3, -4, sym(8, -2, 8))},
		{around(0, 0, sym(25, 0, 25)), strip(at(0, 0), at(3, 4), 26, 27), "....E..", empty},
		{around(0, 0, sym(169, 0, 169)), strip(at(0, 0), at(1, 0), 13, 55), ".......", okay(13, 0, sym(6, 0, 6))},
		{around(0, 0, sym(1690000, 0, 1690000)), strip(at(0, 0), at(1, 0), 1300, 1342), ".......", okay(1310, 0, sym(154, 0, 11336))},
		{around(0, 0, sym(441, 0, 441)), strip(at(0, 0), at(1, 0), 21, 47), ".......", okay(21, 0, sym(6, 0, 6))},
	})
}

// TestP7_2_CutOfEqualTraces: of those of e and of the cut ellipse, and of the cut ellipses
// of several weights.
func TestP7_2_CutOfEqualTraces(t *testing.T) {
	checkCuts(t, []cut{
		{around(-1, -5, sym(27, -29, 73)), strip(at(5, 5), at(-3, -4), 41, 57), ".......", okay(-1, -5, sym(27, -29, 73))},
		{around(8, -6, sym(64, -7, 38)), strip(at(3, -1), at(2, -2), 23, 39), ".......", okay(8, -6, sym(64, -7, 38))},
		{around(5, -7, sym(200, -5, 2)), strip(at(7, 6), at(5, -1), -44, -33), ".......", okay(-3, -7, sym(12, 0, 12))},
		{around(3, -2, sym(377, 141, 129)), strip(at(8, -4), at(4, -2), 15, 62), ".......", okay(17, 1, sym(103, 61, 106))},
		{around(-7, -7, sym(109, -2, 317)), strip(at(-3, 1), at(-2, -3), 7, 58), ".......", okay(-7, -7, sym(172, -69, 220))},
	})
}

func TestP7_2_CutOfStripsThatDoNotMeet(t *testing.T) {
	checkCuts(t, []cut{
		// One of the weights that are asked tells it, each one in turn.
		{around(5, 4, sym(2, -2, 4)), strip(at(-4, 5), at(0, 1), -47, -7), "E......", empty},
		{around(4, 7, sym(100, -101, 393)), strip(at(-7, 7), at(3, -3), -73, -64), ".E.....", empty},
		{around(-5, 8, sym(207, 16, 163)), strip(at(-8, 1), at(3, 4), -52, -37), "..E....", empty},
		{around(-4, 8, sym(377, -182, 238)), strip(at(1, 8), at(2, 0), -61, -49), "...E...", empty},
		{around(8, 7, sym(17, -20, 26)), strip(at(7, 3), at(-4, -4), -59, -27), "....E..", empty},
		{around(-5, 7, sym(3, -1, 2)), strip(at(3, 3), at(3, 5), 3, 61), ".....E.", empty},
		{around(0, 5, sym(233, 6, 72)), strip(at(-2, -7), at(-5, -3), 36, 41), "......E", empty},
		// All of them tell it.
		{around(-3, 0, sym(25, 0, 25)), strip(at(0, 0), at(1, 0), 50, 51), "EEEEEEE", empty},
		{around(-6, 5, sym(2, 1, 2)), strip(at(-7, 6), at(0, 5), 59, 65), "EEEEEEE", empty},
		// Only weights that are not asked would tell it.
		{around(-5, 4, sym(4, 2, 3)), strip(at(-3, 1), at(-4, -4), 10, 17), ".......", okay(-5, 4, sym(4, 2, 3))},
		{around(-4, -8, sym(5, -4, 6)), strip(at(6, 1), at(-3, 3), 17, 20), ".......", okay(-4, -8, sym(5, -4, 6))},
		{around(0, 6, sym(13, -12, 18)), strip(at(5, 8), at(4, -2), -39, -38), ".......", okay(-4, 10, sym(8, 0, 8))},
		// Some are over.
		{around(4194304, 4194304, sym(71287027132, -16630705681, 3879813517)), strip(at(4193316, -3967452), at(7384, -732), 5285642, 515665662979), "OOOOOOE", empty},
		{around(4193622, 4194304, sym(223535074922, -636322002787, 17395119818313)), strip(at(-4194304, 4194304), at(-9506860, 3380177), -637471, 33872479650), "EEEEEEO", empty},
	})
}

// TestP7_2_CutOfEllipsesThatAreOver: for some weights, or for all.
func TestP7_2_CutOfEllipsesThatAreOver(t *testing.T) {
	checkCuts(t, []cut{
		{around(0, 0, sym(mostVar, 0, mostVar)), strip(at(0, 0), at(1, 0), -mostLo, mostLo), "OOOOOOO", okay(0, 0, sym(mostVar, 0, mostVar))},
		{around(-4194304, 4194304, sym(1233, 14375497, 167603356291)), strip(at(-496915, -2744765), at(0, 1), 51125, 451026299198), "O......", okay(-4194304, 4194304, sym(1233, 14375497, 167603356291))},
		{around(1901548, -4194304, sym(659197394414, 36112845, 4676)), strip(at(-4194304, 2829674), at(-974711, 170), -1, 250263036189032), "..O.O.O", okay(1892860, -4194304, sym(555690126145, 30442379, 376670))},
		{around(4193842, -4194304, sym(9865, -173777, 47468274006)), strip(at(4194093, -4194304), at(1037990, -2134), -170, -147), "OOOOOOO", okay(4193842, -4194304, sym(9865, -173777, 47468274006))},
	})
}

// TestP7_2_UnaskedWeightsMayBeEmpty: of the pairs above that do not meet, though no
// weight that is asked tells it, some unasked ones would.
func TestP7_2_UnaskedWeightsMayBeEmpty(t *testing.T) {
	for _, mix := range []mixing{
		fusing(around(6, -8, sym(50, -46, 80)), around(3, 2, sym(3, -1, 3))),
		fusing(around(4, 1, sym(6, 1, 3)), around(7, 4, sym(3, 2, 2))),
		cutting(around(-5, 4, sym(4, 2, 3)), strip(at(-3, 1), at(-4, -4), 10, 17)),
		cutting(around(0, 6, sym(13, -12, 18)), strip(at(5, 8), at(4, -2), -39, -38)),
	} {
		if !mix.isEmptyBetween() {
			t.Errorf("no weight is empty: %s", mix.errors())
		}
	}
}

// TestP7_2_FuseOfItself returns the ellipse.
func TestP7_2_FuseOfItself(t *testing.T) {
	from := source(10)
	for range 500 {
		small, _ := from.small()
		great, _ := from.great()
		for _, e := range []api.Ellipse{small, great} {
			checkMade(t, "Fuse", madeOf(golden.Fuse(e, e)), made{e, api.OK}, e)
		}
	}
}

// kinds counts what the weights return that are asked.
type kinds map[string]int

func (k kinds) add(errors string) {
	k["all OK"] += btoi(strings.Count(errors, ".") == 7)
	k["one empty"] += btoi(strings.Count(errors, "E") == 1)
	k["all empty"] += btoi(strings.Count(errors, "E") == 7)
	k["some over"] += btoi(strings.Contains(errors, "O") && strings.Contains(errors, "."))
	k["all over"] += btoi(strings.Count(errors, "O") == 7)
	k["over and empty"] += btoi(strings.Contains(errors, "O") && strings.Contains(errors, "E"))
}

func btoi(is bool) int {
	if is {
		return 1
	}
	return 0
}

// check holds that each kind was met.
func (k kinds) check(t *testing.T) {
	t.Helper()
	for kind, n := range k {
		if n == 0 {
			t.Errorf("no case is of the kind: %s", kind)
		}
	}
}

func TestP7_2_FuseAndCutOfAllSizes(t *testing.T) {
	fused, cuts := kinds{}, kinds{}
	from := source(11)
	for k := range 6000 {
		pair := []func() (api.Ellipse, api.Strip){from.small, from.great}[k%2]
		e, s := pair()
		f, _ := pair()
		fused.add(checkFuse(t, e, f))
		cuts.add(checkCut(t, e, s))
	}
	fused.check(t)
	cuts.check(t)
}

// TestP7_2_InvalidEllipsesAndStrips: on either side and on both, beside valid ones that
// are over for all weights, too.
func TestP7_2_InvalidEllipsesAndStrips(t *testing.T) {
	valid := []api.Ellipse{around(2, 3, sym(25, 12, 10)), around(0, 0, sym(mostVar, 0, mostVar)), around(mostPos, -mostPos, sym(1, 0, 1))}
	strips := []api.Strip{strip(at(1, 2), at(3, -4), -5, 8), strip(at(1, 2), at(3, -4), 800, 801)}
	for _, e := range invalidEllipses() {
		for _, f := range append(invalidEllipses(), valid...) {
			checkMade(t, "Fuse", madeOf(golden.Fuse(e, f)), refused, e, f)
			checkMade(t, "Fuse", madeOf(golden.Fuse(f, e)), refused, f, e)
		}
		for _, s := range append(invalidStrips(), strips...) {
			checkMade(t, "Cut", madeOf(golden.Cut(e, s)), refused, e, s)
		}
	}
	for _, s := range invalidStrips() {
		for _, e := range valid {
			checkMade(t, "Cut", madeOf(golden.Cut(e, s)), refused, e, s)
		}
	}
}

// TestP7_2_ValidAtTheLimits: what is at a limit is not refused.
func TestP7_2_ValidAtTheLimits(t *testing.T) {
	ellipses := []api.Ellipse{
		around(mostPos, -mostPos, sym(mostVar, 0, 1)), around(-mostPos, mostPos, sym(1, 0, mostVar)),
		around(mostPos, mostPos, sym(mostVar, mostVar-1, mostVar)), around(0, 0, sym(mostVar, 1-mostVar, mostVar)),
		around(mostPos, -mostPos, sym(1, 0, 1)),
	}
	for _, e := range ellipses {
		for _, f := range ellipses {
			checkFuse(t, e, f)
		}
		for _, o := range []api.Point{at(mostPos, mostPos), at(-mostPos, mostPos)} {
			for _, h := range []api.Point{at(mostH, -mostH), at(-mostH, 0), at(0, 1)} {
				checkCut(t, e, strip(o, h, -mostLo, mostLo))
				checkCut(t, e, strip(o, h, mostLo-1, mostLo))
				checkCut(t, e, strip(o, h, -mostLo, 1-mostLo))
			}
		}
	}
}

// checkContains holds that what was made contains p, which all of its parts contain, and
// that its trace is at most most.
func checkContains(t *testing.T, call string, m made, p api.Point, most int64, arguments ...any) {
	t.Helper()
	if m.errno != api.OK || !ellip.In(m.e, p) || trace(m.e) > most {
		t.Errorf("%s(%v) = %v, want %v in it and a trace of at most %d", call, arguments, m, p, most)
	}
}

// TestP7_3_FuseAndCutContainWhatIsInBoth: all integer points of small ellipses.
func TestP7_3_FuseAndCutContainWhatIsInBoth(t *testing.T) {
	from := source(12)
	met := 0
	for range 1000 {
		e, s := from.small()
		f, _ := from.small()
		fused, cut := madeOf(golden.Fuse(e, f)), madeOf(golden.Cut(e, s))
		for _, p := range square(28) {
			if !contains(e, p) {
				continue
			}
			if contains(f, p) {
				checkContains(t, "Fuse", fused, p, min(trace(e), trace(f)), e, f)
				met++
			}
			if stripContains(s, p) {
				checkContains(t, "Cut", cut, p, trace(e), e, s)
				met++
			}
		}
	}
	if met < 10000 {
		t.Errorf("only %d points were in both", met)
	}
}

// TestP7_3_FuseAndCutOfAllThatMeet: ellipses and strips of all sizes have a point in
// common, so that they are not ErrEmpty.
func TestP7_3_FuseAndCutOfAllThatMeet(t *testing.T) {
	from := source(13)
	for range 3000 {
		p := at(from.to(1<<20), from.to(1<<20))
		e, f, s := from.meeting(p)
		checkContains(t, "Fuse", madeOf(golden.Fuse(e, f)), p, min(trace(e), trace(f)), e, f)
		checkContains(t, "Cut", madeOf(golden.Cut(e, s)), p, trace(e), e, s)
	}
}

// TestP7_3_FuseAndCutAgainAndAgain: knowledge that comes back does no harm, and a trace
// never increases.
func TestP7_3_FuseAndCutAgainAndAgain(t *testing.T) {
	from := source(14)
	for range 100 {
		p := at(from.to(1<<20), from.to(1<<20))
		e, _, _ := from.meeting(p)
		for range 15 {
			_, f, s := from.meeting(p)
			fused := madeOf(golden.Fuse(e, f))
			checkContains(t, "Fuse", fused, p, min(trace(e), trace(f)), e, f)
			back := madeOf(golden.Fuse(fused.e, e))
			checkContains(t, "Fuse", back, p, trace(fused.e), fused.e, e)
			cut := madeOf(golden.Cut(back.e, s))
			checkContains(t, "Cut", cut, p, trace(back.e), back.e, s)
			e = cut.e
		}
	}
}

// TestP7_3_ContainsThePointOfTouch: the only one that is in both.
func TestP7_3_ContainsThePointOfTouch(t *testing.T) {
	for _, x := range []struct {
		e, f api.Ellipse
		p    api.Point
	}{
		{around(-5, 0, sym(25, 0, 25)), around(5, 0, sym(25, 0, 25)), at(0, 0)},
		{around(0, 0, sym(25, 0, 25)), around(6, 8, sym(25, 0, 25)), at(3, 4)},
		{around(-13, 0, sym(169, 0, 169)), around(21, 0, sym(441, 0, 441)), at(0, 0)},
		{around(0, -30, sym(90000, 0, 900)), around(0, 4, sym(1, 0, 16)), at(0, 0)},
		{around(-mostPos, 0, sym(1<<44, 0, 1<<44)), around(mostPos, 0, sym(1<<44, 0, 1<<44)), at(0, 0)},
	} {
		checkContains(t, "Fuse", madeOf(golden.Fuse(x.e, x.f)), x.p, min(trace(x.e), trace(x.f)), x.e, x.f)
		checkContains(t, "Fuse", madeOf(golden.Fuse(x.f, x.e)), x.p, min(trace(x.e), trace(x.f)), x.f, x.e)
	}
	for _, x := range []struct {
		e api.Ellipse
		s api.Strip
		p api.Point
	}{
		{around(0, 0, sym(25, 0, 25)), strip(at(0, 0), at(3, 4), 25, 26), at(3, 4)},
		{around(0, 0, sym(25, 0, 25)), strip(at(0, 0), at(3, 4), -30, -25), at(-3, -4)},
		{around(0, 0, sym(169, 0, 169)), strip(at(0, 0), at(1, 0), 13, 55), at(13, 0)},
		{around(1, 2, sym(16, 0, 9)), strip(at(1, 2), at(0, -1), 3, 4), at(1, -1)},
	} {
		checkContains(t, "Cut", madeOf(golden.Cut(x.e, x.s)), x.p, trace(x.e), x.e, x.s)
	}
}
