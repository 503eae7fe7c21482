package turn_test

import (
	"math"
	"testing"

	"alidade/api"
	"alidade/turn"
)

func checkNumber(t *testing.T, call string, got, want int64, arguments ...any) {
	t.Helper()
	if got != want {
		t.Errorf("%s(%v) = %d, want %d", call, arguments, got, want)
	}
}

func checkPoint(t *testing.T, call string, got, want api.Point, arguments ...any) {
	t.Helper()
	if got != want {
		t.Errorf("%s(%v) = %v, want %v", call, arguments, got, want)
	}
}

func TestP9_1_OfExamples(t *testing.T) {
	for p, want := range map[api.Point]complex128{
		at(0, 0): 0, at(1, 0): 1, at(0, 1): 1i, at(3, -4): 3 - 4i, at(-1, 2): -1 + 2i,
		at(-123456, -654321): -123456 - 654321i, at(4194303, -4194303): 4194303 - 4194303i,
		at(4194304, -4194304): 4194304 - 4194304i, at(-4194304, 4194304): -4194304 + 4194304i,
	} {
		if z := turn.Of(p); z != want {
			t.Errorf("Of(%v) = %v, want %v", p, z, want)
		}
	}
}

func TestP9_1_OfAndToOfAllSteps(t *testing.T) {
	list := steps()
	from := source(1)
	for range 20000 {
		list = append(list, from.step(mostRange))
	}
	for _, p := range list {
		z := turn.Of(p)
		if real(z) != float64(p.X) || imag(z) != float64(p.Y) {
			t.Errorf("Of(%v) = %v", p, z)
		}
		if back, ok := turn.To(z); back != p || !ok {
			t.Errorf("To(%v) = %v, %v, want %v, true", z, back, ok, p)
		}
	}
}

func TestP9_1_OfIs0IfItIsNoStep(t *testing.T) {
	for _, p := range noSteps() {
		if z := turn.Of(p); z != 0 {
			t.Errorf("Of(%v) = %v, want 0", p, z)
		}
	}
}

func TestP9_1_ToExamples(t *testing.T) {
	minus0 := math.Copysign(0, -1)
	for _, x := range []struct {
		z    complex128
		want api.Point
	}{
		{0, at(0, 0)}, {1, at(1, 0)}, {-1i, at(0, -1)}, {-7 + 8i, at(-7, 8)}, {1e6 - 3e6i, at(1000000, -3000000)},
		{complex(minus0, minus0), at(0, 0)}, {complex(minus0, 5), at(0, 5)}, {complex(-5, minus0), at(-5, 0)},
		{4194304 + 4194304i, at(4194304, 4194304)}, {-4194304 - 4194304i, at(-4194304, -4194304)}, {4194303 - 4194303i, at(4194303, -4194303)},
	} {
		if p, ok := turn.To(x.z); p != x.want || !ok {
			t.Errorf("To(%v) = %v, %v, want %v, true", x.z, p, ok, x.want)
		}
	}
}

// noCoordinates are floats that are not integers, and such as are greater than those of a
// step.
func noCoordinates() []float64 {
	list := []float64{
		math.NaN(), math.Inf(1), math.Inf(-1), math.MaxFloat64, -math.MaxFloat64, math.SmallestNonzeroFloat64, -math.SmallestNonzeroFloat64,
		0.5, -0.5, 0.999999999, 1e-9, 2.25, -3.75, 4194303.5, -4194303.5, 4194304.5, -4194304.5, 1 << 31, -1 << 31, 1 << 32, 1 << 53, 1 << 63, -1 << 63, 1 << 64, 1e300,
	}
	for _, n := range outside() {
		list = append(list, float64(n))
	}
	for _, x := range []float64{0, 1, -1, 2, 1000, -65536, 4194303, 4194304, -4194304} {
		above, below := math.Nextafter(x, math.Inf(1)), math.Nextafter(x, math.Inf(-1))
		list = append(list, above, below)
	}
	return list
}

func TestP9_1_ToRefusesWhatIsNoStep(t *testing.T) {
	refuse := func(x, y float64) {
		if p, ok := turn.To(complex(x, y)); ok || p != at(0, 0) {
			t.Errorf("To(%v, %v) = %v, %v, want (0, 0), false", x, y, p, ok)
		}
	}
	for _, x := range noCoordinates() {
		for _, y := range []float64{0, 1, -7, 4194304, -4194304} {
			refuse(x, y)
			refuse(y, x)
		}
		for _, y := range noCoordinates() {
			refuse(x, y)
		}
	}
}

func TestP9_1_MulExamples(t *testing.T) {
	for _, x := range []struct{ p, q, want api.Point }{
		{at(1, 2), at(3, 4), at(-5, 10)},
		{at(0, 1), at(0, 1), at(-1, 0)},
		{at(3, -7), at(-11, 5), at(2, 92)},
		{at(0, 0), at(4194304, -4194304), at(0, 0)},
		{at(1, 0), at(4194304, -4194304), at(4194304, -4194304)},
		{at(123456, -654321), at(-4194303, 4194301), at(2226607353453, 3262232157519)},
		{at(4194304, 4194304), at(4194304, 4194304), at(0, 35184372088832)},
		{at(4194304, 4194304), at(4194304, -4194304), at(35184372088832, 0)},
		{at(-4194304, 4194304), at(4194304, 4194304), at(-35184372088832, 0)},
		{at(4194303, 4194304), at(4194304, 4194303), at(0, 35184363700225)},
		{at(4194304, 4194303), at(4194304, 4194303), at(8388607, 35184363700224)},
		{at(4194303, -4194301), at(-4194299, -4194297), at(-35184304979994, 8)},
	} {
		checkPoint(t, "Mul", turn.Mul(x.p, x.q), x.want, x.p, x.q)
		checkPoint(t, "Mul", turn.Mul(x.q, x.p), x.want, x.q, x.p)
	}
}

func TestP9_1_MulOfAllSteps(t *testing.T) {
	for _, p := range steps() {
		for _, q := range steps() {
			checkPoint(t, "Mul", turn.Mul(p, q), wantMul(p, q), p, q)
		}
	}
	from := source(2)
	for range 100000 {
		p, q := from.step(mostRange), from.step(mostRange)
		checkPoint(t, "Mul", turn.Mul(p, q), wantMul(p, q), p, q)
	}
}

func TestP9_1_MulIs0IfOneIsNoStep(t *testing.T) {
	for _, p := range noSteps() {
		for _, q := range []api.Point{at(1, 0), at(0, 1), at(-3, 5), at(mostRange, -mostRange)} {
			checkPoint(t, "Mul", turn.Mul(p, q), at(0, 0), p, q)
			checkPoint(t, "Mul", turn.Mul(q, p), at(0, 0), q, p)
		}
		for _, q := range noSteps() {
			checkPoint(t, "Mul", turn.Mul(p, q), at(0, 0), p, q)
		}
	}
}

func TestP9_1_QuarterExamples(t *testing.T) {
	for k, want := range map[int]api.Point{
		0: at(1, 2), 1: at(-2, 1), 2: at(-1, -2), 3: at(2, -1), 4: at(1, 2), 5: at(-2, 1), 6: at(-1, -2), 7: at(2, -1),
		-1: at(2, -1), -2: at(-1, -2), -3: at(-2, 1), -4: at(1, 2), -5: at(2, -1),
		math.MaxInt: at(2, -1), math.MaxInt - 1: at(-1, -2), math.MinInt: at(1, 2), math.MinInt + 1: at(-2, 1),
	} {
		checkPoint(t, "Quarter", turn.Quarter(at(1, 2), k), want, k)
	}
	checkPoint(t, "Quarter", turn.Quarter(at(4194304, -4194303), 1), at(4194303, 4194304))
	checkPoint(t, "Quarter", turn.Quarter(at(4194304, -4194304), -1), at(-4194304, -4194304))
}

func TestP9_1_QuarterOfAllSteps(t *testing.T) {
	for _, p := range steps() {
		for _, k := range turns() {
			checkPoint(t, "Quarter", turn.Quarter(p, k), turned(p, k), p, k)
		}
	}
	from := source(3)
	for range 50000 {
		p, k := from.step(mostRange), from.turn()
		checkPoint(t, "Quarter", turn.Quarter(p, k), turned(p, k), p, k)
	}
}

func TestP9_1_QuarterIs0IfItIsNoStep(t *testing.T) {
	for _, p := range noSteps() {
		for _, k := range turns() {
			checkPoint(t, "Quarter", turn.Quarter(p, k), at(0, 0), p, k)
		}
	}
}

func TestP9_2_NormExamples(t *testing.T) {
	for p, want := range map[api.Point]int64{
		at(0, 0): 0, at(3, -4): 25, at(-1, 0): 1, at(0, 1): 1, at(-2, -3): 13, at(123456, -654321): 443377354977,
		at(4194303, 4194301): 35184338534410, at(4194303, -4194304): 35184363700225, at(4194304, 4194304): 35184372088832,
		at(-4194304, 0): 17592186044416, at(0, -4194304): 17592186044416,
	} {
		checkNumber(t, "Norm", turn.Norm(p), want, p)
	}
}

func TestP9_2_NormOfAllSteps(t *testing.T) {
	for _, p := range steps() {
		checkNumber(t, "Norm", turn.Norm(p), wantNorm(p), p)
	}
	from := source(4)
	for range 50000 {
		p := from.step(mostRange)
		checkNumber(t, "Norm", turn.Norm(p), wantNorm(p), p)
	}
}

func TestP9_2_NormIs0IfItIsNoStep(t *testing.T) {
	for _, p := range noSteps() {
		checkNumber(t, "Norm", turn.Norm(p), 0, p)
	}
}

func TestP9_2_DistExamples(t *testing.T) {
	for _, x := range []struct {
		p, q api.Point
		want int64
	}{
		{at(1, 1), at(4, 5), 5}, {at(0, 0), at(0, 0), 0}, {at(0, 0), at(1, 1), 1}, {at(-1, -1), at(1, 1), 2}, {at(1, 1), at(3, 4), 3},
		{at(123, 456), at(-789, 1011), 1067}, {at(100, 200), at(103, 204), 5}, {at(4194304, 4194304), at(4194304, 4194304), 0},
		{at(4194304, 4194304), at(4194303, 4194304), 1}, {at(4194304, 0), at(-4194304, 0), 8388608}, {at(0, -4194304), at(0, 4194304), 8388608},
		{at(-4194304, -4194304), at(4194304, 4194304), 11863283}, {at(-4194304, 4194304), at(4194304, -4194304), 11863283},
		{at(-4194304, -4194304), at(4194304, 4194303), 11863282},
		{at(-4194304, -2048), at(4194304, 2048), 8388608}, {at(-4194304, -2049), at(4194304, 2048), 8388609},
	} {
		checkNumber(t, "Dist", turn.Dist(x.p, x.q), x.want, x.p, x.q)
		checkNumber(t, "Dist", turn.Dist(x.q, x.p), x.want, x.q, x.p)
	}
}

func TestP9_2_DistOfAllPoints(t *testing.T) {
	points := append(steps(), someSteps(5, 400)...)
	for i, p := range points {
		for _, q := range points[i:] {
			want := wantDist(p, q)
			checkNumber(t, "Dist", turn.Dist(p, q), want, p, q)
			checkNumber(t, "Dist", turn.Dist(q, p), want, q, p)
		}
	}
}

// The squares of these distances are 1 less than a square, so the distances are as near
// to the next integer as they may be.
func TestP9_2_DistIsNeverRoundedUp(t *testing.T) {
	below := func(x, y, root int64) {
		p := at(-x/2, -y/2)
		q := at(p.X+x, p.Y+y)
		checkNumber(t, "Dist", turn.Dist(p, q), root-1, p, q)
		checkNumber(t, "Dist", turn.Dist(turned(q, 1), turned(p, 1)), root-1, turned(q, 1), turned(p, 1))
	}
	for y := int64(2); y <= 4096; y += 2 {
		below(y*y/2, y, y*y/2+1)
	}
	below(8376822, 8167386, 11699459)
	below(8319894, 8225142, 11699299)
	below(8286902, 8256794, 11698179)
}

func TestP9_2_DistIs0IfOneIsNotValid(t *testing.T) {
	for _, p := range noSteps() {
		for _, q := range []api.Point{at(0, 0), at(1, -2), at(mostPos, mostPos), at(-mostPos, -mostPos), at(mostPos+1, 0), p} {
			checkNumber(t, "Dist", turn.Dist(p, q), 0, p, q)
			checkNumber(t, "Dist", turn.Dist(q, p), 0, q, p)
		}
	}
}

func TestP9_3_FourQuarterTurnsAreTheIdentity(t *testing.T) {
	for _, p := range append(steps(), someSteps(6, 5000)...) {
		for _, k := range []int{1, -1, 3, 5, math.MaxInt, math.MinInt + 1} {
			q := p
			for range 4 {
				q = turn.Quarter(q, k)
			}
			checkPoint(t, "Quarter four times", q, p, p, k)
		}
		checkPoint(t, "Quarter", turn.Quarter(p, 4), p, p, 4)
		checkPoint(t, "Quarter", turn.Quarter(turn.Quarter(p, 1), -1), p, p)
		checkPoint(t, "Quarter", turn.Quarter(p, 1), turn.Mul(p, at(0, 1)), p)
	}
}

func TestP9_3_ATurnPreservesNorm(t *testing.T) {
	for _, p := range append(steps(), noSteps()...) {
		for _, k := range turns() {
			checkNumber(t, "Norm of Quarter", turn.Norm(turn.Quarter(p, k)), turn.Norm(p), p, k)
		}
	}
}

func TestP9_3_NormOfAProduct(t *testing.T) {
	list := append(steps(), someSteps(7, 500)...)
	list = append(list, noSteps()[:20]...)
	products := 0
	for _, p := range list {
		for _, q := range list {
			if product := turn.Mul(p, q); isStep(product) {
				products++
				checkNumber(t, "Norm of Mul", turn.Norm(product), turn.Norm(p)*turn.Norm(q), p, q)
			}
		}
	}
	if products < 100000 {
		t.Errorf("%d products are steps", products)
	}
}
