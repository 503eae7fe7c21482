package mat_test

import (
	"math"
	"testing"

	"alidade/api"
	"alidade/mat"
	"alidade/wide"
)

// invalidMatrices have one number that is out of range, by 1 or by far, or all.
func invalidMatrices() []api.Sym {
	var all []api.Sym
	for _, n := range []int64{most + 1, -most - 1, math.MaxInt64, math.MinInt64} {
		all = append(all, api.Sym{A: n}, api.Sym{B: n}, api.Sym{D: n}, api.Sym{A: n, B: n, D: n})
	}
	return all
}

func TestP3_1_May(t *testing.T) {
	for _, m := range matricesOf(edges()) {
		checkBool(t, "May", mat.May(m), mayBe(m), m)
	}
	for _, m := range invalidMatrices() {
		checkBool(t, "May", mat.May(m), false, m)
	}
	for _, m := range []api.Sym{{}, {A: 4, B: 7, D: 9}, {A: -1, B: -1, D: -1}, {A: most, B: most, D: most}, {A: -most, B: -most, D: -most}} {
		checkBool(t, "May", mat.May(m), true, m)
	}
}

func checkAdd(t *testing.T, m, n api.Sym) {
	t.Helper()
	want := sumAnswer{api.Sym{A: m.A + n.A, B: m.B + n.B, D: m.D + n.D}, api.OK}
	if !mayBe(m) || !mayBe(n) {
		want = sumAnswer{errno: api.ErrArg}
	} else if !mayBe(want.m) {
		want = sumAnswer{errno: api.ErrOver}
	}
	if got := sumAnswerOf(mat.Add(m, n)); got != want {
		t.Errorf("Add(%v, %v) = %v, want %v", m, n, got, want)
	}
}

func TestP3_1_AddOfAllLengths(t *testing.T) {
	from := source(1)
	for range 20000 {
		checkAdd(t, from.validSym(), from.validSym())
		checkAdd(t, from.sym(), from.sym())
	}
}

func TestP3_1_AddAtTheLimits(t *testing.T) {
	for _, x := range []struct {
		m, n int64
		want int64
		over bool
	}{
		{most, 0, most, false}, {most - 1, 1, most, false}, {most, -most, 0, false}, {-most, 0, -most, false},
		{1 - most, -1, -most, false}, {most / 2, most / 2, most, false}, {-most / 2, -most / 2, -most, false},
		{most, 1, 0, true}, {most, most, 0, true}, {-most, -1, 0, true}, {-most, -most, 0, true}, {most/2 + 1, most / 2, 0, true},
	} {
		for _, at := range []func(int64) api.Sym{
			func(n int64) api.Sym { return api.Sym{A: n} },
			func(n int64) api.Sym { return api.Sym{B: n} },
			func(n int64) api.Sym { return api.Sym{D: n} },
		} {
			want := sumAnswer{at(x.want), api.OK}
			if x.over {
				want = sumAnswer{errno: api.ErrOver}
			}
			if got := sumAnswerOf(mat.Add(at(x.m), at(x.n))); got != want {
				t.Errorf("Add(%v, %v) = %v, want %v", at(x.m), at(x.n), got, want)
			}
			if got := sumAnswerOf(mat.Add(at(x.n), at(x.m))); got != want {
				t.Errorf("Add(%v, %v) = %v, want %v", at(x.n), at(x.m), got, want)
			}
		}
	}
}

// An invalid matrix counts before a sum that is not valid, even if the numbers of
// the sum would be in range.
func TestP3_1_AddOfInvalidMatrices(t *testing.T) {
	want := sumAnswer{errno: api.ErrArg}
	for _, bad := range invalidMatrices() {
		for _, other := range append(invalidMatrices(), api.Sym{}, api.Sym{A: -1, B: -1, D: -1}, api.Sym{A: 1, B: 1, D: 1}, api.Sym{A: most, B: most, D: most}, api.Sym{A: -most, B: -most, D: -most}) {
			if got := sumAnswerOf(mat.Add(bad, other)); got != want {
				t.Errorf("Add(%v, %v) = %v, want %v", bad, other, got, want)
			}
			if got := sumAnswerOf(mat.Add(other, bad)); got != want {
				t.Errorf("Add(%v, %v) = %v, want %v", other, bad, got, want)
			}
		}
	}
}

func TestP3_1_Adj(t *testing.T) {
	list := append(matricesOf(edges()), invalidMatrices()...)
	from := source(2)
	for range 5000 {
		list = append(list, from.sym(), from.validSym())
	}
	for _, m := range list {
		want := api.Sym{}
		if mayBe(m) {
			want = api.Sym{A: m.D, B: -m.B, D: m.A}
		}
		if got := mat.Adj(m); got != want {
			t.Errorf("Adj(%v) = %v, want %v", m, got, want)
		}
	}
	for m, want := range map[api.Sym]api.Sym{
		{A: 2, B: -3, D: 7}:               {A: 7, B: 3, D: 2},
		{A: most, B: most, D: -most}:      {A: -most, B: -most, D: most},
		{A: -most, B: -most, D: 0}:        {A: 0, B: most, D: -most},
		{A: 1, B: 2, D: most + 1}:         {},
		{A: 1, B: math.MinInt64, D: 3}:    {},
		{A: -most - 1, B: 1, D: 1}:        {},
		{A: math.MaxInt64, B: 1, D: most}: {},
	} {
		if got := mat.Adj(m); got != want {
			t.Errorf("Adj(%v) = %v, want %v", m, got, want)
		}
	}
}

// anyMatrices are matrices of all kinds, valid or not.
func anyMatrices() []api.Sym {
	all := matricesOf(edges())
	all = append(all, matricesOf(numbersTo(4))...)
	all = append(all, besideFlat()...)
	from := source(3)
	for range 5000 {
		all = append(all, from.sym())
	}
	return all
}

func TestP3_2_Det(t *testing.T) {
	for _, m := range anyMatrices() {
		checkWide(t, "Det", mat.Det(m), bigOf(m).det(), m)
	}
	for m, want := range map[api.Sym]string{
		{}:                   "0",
		{A: 2, B: -3, D: 7}:  "5",
		{A: 4, B: 7, D: 9}:   "-d",
		{A: -4, B: 0, D: 9}:  "-24",
		{A: -4, B: 6, D: -9}: "0",
		{A: 1 << 62, D: 4}:   "10000000000000000",
		{A: math.MinInt64, D: math.MaxInt64, B: math.MinInt64}: "-7fffffffffffffff8000000000000000",
	} {
		if got := wide.Text(mat.Det(m)); got != want {
			t.Errorf("Det(%v) = %s, want %s", m, got, want)
		}
	}
}

func TestP3_2_Quad(t *testing.T) {
	check := func(m api.Sym, p api.Point) {
		checkWide(t, "Quad", mat.Quad(m, p), bigOf(m).quad(p), m, p)
	}
	points := pointsOf([]int64{math.MinInt64, math.MaxInt64, -1, 0, 1})
	for _, m := range matricesOf(edges()) {
		for _, p := range points {
			check(m, p)
		}
	}
	for _, p := range pointsOf(edges()) {
		check(api.Sym{A: 2, B: -3, D: 7}, p)
	}
	from := source(4)
	for range 20000 {
		check(from.sym(), from.point())
	}
	if got := wide.Text(mat.Quad(api.Sym{A: 2, B: -3, D: 7}, api.Point{X: 4, Y: -1})); got != "3f" {
		t.Errorf("Quad = %s, want 3f", got)
	}
}

func TestP3_2_Psd(t *testing.T) {
	for _, m := range anyMatrices() {
		checkBool(t, "Psd", mat.Psd(m), bigOf(m).psd(), m)
	}
}

func TestP3_2_PsdAtTheLimits(t *testing.T) {
	const greatest, least = math.MaxInt64, math.MinInt64
	for _, x := range []struct {
		m    api.Sym
		want bool
	}{
		{api.Sym{}, true}, {api.Sym{D: 5}, true}, {api.Sym{A: 5}, true}, {api.Sym{B: 1}, false}, {api.Sym{B: -1, D: 5}, false}, {api.Sym{A: 5, B: 1}, false},
		{api.Sym{A: 4, B: 6, D: 9}, true}, {api.Sym{A: 4, B: -6, D: 9}, true}, {api.Sym{A: 4, B: 7, D: 9}, false}, {api.Sym{A: 4, B: -7, D: 9}, false},
		{api.Sym{A: -1}, false}, {api.Sym{D: -1}, false}, {api.Sym{A: -1, D: -1}, false}, {api.Sym{A: -1, B: 1, D: -1}, false}, {api.Sym{A: -1, D: 1}, false},
		{api.Sym{A: greatest, B: greatest, D: greatest}, true}, {api.Sym{A: greatest, B: -greatest, D: greatest}, true},
		{api.Sym{A: greatest, B: least, D: greatest}, false}, {api.Sym{A: greatest, B: greatest, D: greatest - 1}, false},
		{api.Sym{A: greatest, B: greatest - 1, D: greatest - 1}, true}, {api.Sym{A: least, D: least}, false}, {api.Sym{A: least, B: 1, D: greatest}, false},
		{api.Sym{A: most + 1, B: most, D: most}, true}, {api.Sym{A: most - 1, B: most, D: most}, false}, {api.Sym{A: most + 1, B: most, D: most - 1}, false},
	} {
		checkBool(t, "Psd", mat.Psd(x.m), x.want, x.m)
	}
}

func TestP3_2_Holds(t *testing.T) {
	check := func(m api.Sym, p api.Point) {
		checkBool(t, "Holds", mat.Holds(m, p), bigOf(m).minus(bigSquare(p)).psd(), m, p)
	}
	for _, m := range matricesOf(edges()) {
		for _, p := range pointsOf([]int64{math.MinInt64, math.MaxInt64, -1, 0, 1, 3037000499, -1518500249}) {
			check(m, p)
		}
	}
	for _, m := range matricesOf(numbersTo(5)) {
		for _, p := range pointsOf(numbersTo(3)) {
			check(m, p)
		}
	}
	from := source(5)
	for range 20000 {
		check(from.sym(), from.point())
		p := api.Point{X: from.short() >> 33, Y: from.short() >> 33}
		step := api.Sym{A: from.short() >> 40, B: from.short() >> 40, D: from.short() >> 40}
		check(api.Sym{A: p.X*p.X + step.A, B: p.X*p.Y + step.B, D: p.Y*p.Y + step.D}, p)
	}
}

// The points of the ellipse of a flat matrix are those of a piece of a line: its
// ends are in it, and no step by 1 leads to a matrix that is still too small.
func TestP3_2_HoldsAtTheBorder(t *testing.T) {
	for _, p := range []api.Point{{}, {X: 2}, {Y: -3}, {X: 2, Y: 1}, {X: -7, Y: 5}, {X: 1 << 30, Y: -1 << 30}, {X: 3037000499, Y: 3037000499}, {X: -3037000499, Y: 1}} {
		m := api.Sym{A: p.X * p.X, B: p.X * p.Y, D: p.Y * p.Y}
		checkBool(t, "Holds", mat.Holds(m, p), true, m, p)
		for _, step := range []api.Sym{{A: -1}, {D: -1}, {B: 1}, {B: -1}, {A: -1, D: 1 << 30}, {A: 1 << 30, D: -1}, {A: 2, B: 2, D: 1}} {
			less := api.Sym{A: m.A + step.A, B: m.B + step.B, D: m.D + step.D}
			checkBool(t, "Holds", mat.Holds(less, p), false, less, p)
		}
		for _, step := range []api.Sym{{A: 1}, {D: 1}, {A: 1, B: 1, D: 1}, {A: 1, B: -1, D: 1}, {A: 4, B: 2, D: 1}} {
			more := api.Sym{A: m.A + step.A, B: m.B + step.B, D: m.D + step.D}
			checkBool(t, "Holds", mat.Holds(more, p), true, more, p)
		}
	}
	m := api.Sym{A: 4, D: 9}
	for p, want := range map[api.Point]bool{
		{X: 2}: true, {X: 2, Y: 1}: false, {Y: -3}: true, {X: 1, Y: 2}: true, {X: 1, Y: 3}: false, {X: 3}: false, {X: -1, Y: -2}: true,
		{X: math.MinInt64, Y: math.MinInt64}: false, {X: math.MaxInt64}: false, {Y: math.MinInt64}: false,
	} {
		checkBool(t, "Holds", mat.Holds(m, p), want, m, p)
	}
}

func TestP3_2_Least(t *testing.T) {
	check := func(m, n api.Sym) {
		want := mayBe(m) && mayBe(n) && bigOf(m).minus(bigOf(n)).psd()
		checkBool(t, "Least", mat.Least(m, n), want, m, n)
	}
	corners := matricesOf([]int64{-most - 1, -most, -1, 0, 1, most, most + 1})
	for _, m := range corners {
		for _, n := range corners {
			check(m, n)
		}
	}
	from := source(6)
	for range 20000 {
		check(from.validSym(), from.validSym())
	}
	for _, difference := range besideFlat() {
		if n := from.validSym(); mayBe(difference) {
			check(api.Sym{A: n.A + difference.A, B: n.B + difference.B, D: n.D + difference.D}, n)
		}
	}
}

func TestP3_2_LeastAtTheLimits(t *testing.T) {
	for _, x := range []struct {
		m, n api.Sym
		want bool
	}{
		{api.Sym{A: 5, D: 5}, api.Sym{A: 4, D: 4}, true}, {api.Sym{A: 5, B: 1, D: 5}, api.Sym{A: 4, D: 4}, true}, {api.Sym{A: 5, B: 2, D: 5}, api.Sym{A: 4, D: 4}, false},
		{api.Sym{A: 4, D: 4}, api.Sym{A: 5, D: 5}, false}, {api.Sym{A: 4, D: 4}, api.Sym{A: 5, D: 4}, false}, {api.Sym{A: 4, D: 4}, api.Sym{A: 4, D: 5}, false},
		{api.Sym{A: -4, B: 1, D: -4}, api.Sym{A: -5, D: -5}, true}, {api.Sym{A: -1, D: -1}, api.Sym{A: -1, D: -1}, true},
		{api.Sym{A: most, D: most}, api.Sym{A: -most, D: -most}, true}, {api.Sym{A: most, B: most, D: most}, api.Sym{A: -most, B: -most, D: -most}, true},
		{api.Sym{A: most, B: most, D: most}, api.Sym{A: -most, B: -most, D: 1 - most}, false}, {api.Sym{A: -most, D: -most}, api.Sym{A: most, D: most}, false},
	} {
		checkBool(t, "Least", mat.Least(x.m, x.n), x.want, x.m, x.n)
	}
	// Each of these would be at least 0, or 0 at least it, if it were valid.
	for _, bad := range invalidMatrices() {
		for _, other := range []api.Sym{{}, bad, {A: most, D: most}, {A: -most, D: -most}} {
			checkBool(t, "Least", mat.Least(bad, other), false, bad, other)
			checkBool(t, "Least", mat.Least(other, bad), false, other, bad)
		}
	}
}

// witness returns a point at which the form of m is negative, if m is not
// positive semidefinite.
func witness(m api.Sym) api.Point {
	switch {
	case m.A < 0:
		return api.Point{X: 1}
	case m.D < 0:
		return api.Point{Y: 1}
	case m.A > 0:
		return api.Point{X: m.B, Y: -m.A}
	case m.D > 0 && m.B < 0:
		return api.Point{X: m.D, Y: 1}
	case m.D > 0:
		return api.Point{X: -m.D, Y: 1}
	case m.B < 0:
		return api.Point{X: 1, Y: 1}
	default:
		return api.Point{X: 1, Y: -1}
	}
}

func TestP3_3_PsdIfQuadIsNeverNegative(t *testing.T) {
	from := source(8)
	points := pointsOf(numbersTo(2))
	for _, m := range anyMatrices() {
		if !mat.Psd(m) {
			if p := witness(m); wide.Sign(mat.Quad(m, p)) >= 0 {
				t.Errorf("Psd(%v) = false, but Quad(%v) = %s", m, p, wide.Text(mat.Quad(m, p)))
			}
			continue
		}
		for _, p := range append(points, witness(m), from.point(), from.point()) {
			if wide.Sign(mat.Quad(m, p)) < 0 {
				t.Errorf("Psd(%v) = true, but Quad(%v) = %s", m, p, wide.Text(mat.Quad(m, p)))
			}
		}
	}
}

func TestP3_3_LeastIsAPartialOrder(t *testing.T) {
	list := matricesOf([]int64{-most, -2, -1, 0, 1, most})
	least := map[[2]int]bool{}
	for i, m := range list {
		for j, n := range list {
			least[[2]int{i, j}] = mat.Least(m, n)
		}
		if !least[[2]int{i, i}] {
			t.Errorf("Least(%v, %v) = false", m, m)
		}
	}
	for i, m := range list {
		for j, n := range list {
			if !least[[2]int{i, j}] {
				continue
			}
			if i != j && least[[2]int{j, i}] {
				t.Errorf("Least is true of %v and %v in both orders", m, n)
			}
			for k, o := range list {
				if least[[2]int{j, k}] && !least[[2]int{i, k}] {
					t.Errorf("Least(%v, %v) = false with %v between", m, o, n)
				}
			}
		}
	}
}

func TestP3_3_HoldsIsTrueOfAllPointsBetween(t *testing.T) {
	check := func(m api.Sym, q api.Point, k int64) {
		if !mat.Holds(m, api.Point{X: k * q.X, Y: k * q.Y}) {
			return
		}
		for j := -k; j <= k; j++ {
			p := api.Point{X: j * q.X, Y: j * q.Y}
			checkBool(t, "Holds", mat.Holds(m, p), true, m, p)
		}
	}
	for _, m := range matricesOf(numbersTo(4)) {
		for _, q := range pointsOf(numbersTo(2)) {
			check(m, q, 2)
		}
	}
	from := source(9)
	for range 5000 {
		q := api.Point{X: from.short() >> 36, Y: from.short() >> 36}
		k := int64(from.below(7))
		p := api.Point{X: k * q.X, Y: k * q.Y}
		x, y := from.short()>>48, from.short()>>48
		check(api.Sym{A: p.X*p.X + x*x, B: p.X*p.Y + x*y, D: p.Y*p.Y + y*y}, q, k)
	}
}

// The form of a matrix and of its adjugate are linked by the determinant, so that
// the three functions hold each other.
func TestP3_2_HoldsAgreesWithTheAdjugate(t *testing.T) {
	from := source(10)
	for range 10000 {
		m := from.validSym()
		p := api.Point{X: from.short() >> 32, Y: from.short() >> 32}
		if !mat.Psd(m) || wide.Sign(mat.Det(m)) == 0 {
			continue
		}
		order, _ := wide.Cmp(mat.Quad(mat.Adj(m), p), mat.Det(m))
		checkBool(t, "Holds", mat.Holds(m, p), order <= 0, m, p)
	}
}
