package root_test

import (
	"math"
	"math/big"
	"testing"

	"alidade/api"
	"alidade/root"
	"alidade/wide"
)

// squaresAndBeside are squares of int64 and the numbers beside them.
func squaresAndBeside() []int64 {
	const greatestRoot = 3037000499
	var list []int64
	from := source(1)
	addBeside := func(r int64) { list = append(list, r*r-1, r*r, r*r+1) }
	for range 2000 {
		addBeside(int64(from.word() % (greatestRoot + 1) >> from.below(32)))
	}
	for k := range 31 {
		addBeside(1 << k)
		addBeside(1<<k + 1)
	}
	for r := int64(greatestRoot - 3); r <= greatestRoot; r++ {
		addBeside(r)
	}
	return list
}

func TestP2_1_RootsOfSmallNumbers(t *testing.T) {
	down, up := int64(0), int64(0)
	for n := int64(0); n <= 20000; n++ {
		if (down+1)*(down+1) <= n {
			down++
		}
		if up*up < n {
			up++
		}
		if a, b := root.Sqrt(n), root.Up(n); a != down || b != up {
			t.Fatalf("Sqrt(%d), Up(%d) = %d, %d, want %d, %d", n, n, a, b, down, up)
		}
	}
}

func TestP2_1_RootsOfAllLengths(t *testing.T) {
	list := append(squaresAndBeside(), int64s()...)
	from := source(2)
	for range 5000 {
		list = append(list, from.short())
	}
	for _, n := range list {
		x := big.NewInt(max(n, 0))
		down, up := rootBelow(x).Int64(), rootAbove(x).Int64()
		if a, b := root.Sqrt(n), root.Up(n); a != down || b != up {
			t.Errorf("Sqrt(%d), Up(%d) = %d, %d, want %d, %d", n, n, a, b, down, up)
		}
	}
}

func TestP2_1_RootsAtTheLimits(t *testing.T) {
	for n, want := range map[int64][2]int64{
		0: {0, 0}, 1: {1, 1}, 2: {1, 2}, 3: {1, 2}, 4: {2, 2}, 5: {2, 3}, 8: {2, 3},
		9223372030926249000: {3037000498, 3037000499},
		9223372030926249001: {3037000499, 3037000499},
		9223372030926249002: {3037000499, 3037000500},
		math.MaxInt64:       {3037000499, 3037000500},
	} {
		if a, b := root.Sqrt(n), root.Up(n); a != want[0] || b != want[1] {
			t.Errorf("Sqrt(%d), Up(%d) = %d, %d, want %v", n, n, a, b, want)
		}
	}
}

func TestP2_1_RootsBelow1Are0(t *testing.T) {
	for _, n := range []int64{0, -1, -2, -4, -9, -1 << 32, -1 << 62, math.MinInt64 + 1, math.MinInt64} {
		if a, b := root.Sqrt(n), root.Up(n); a != 0 || b != 0 {
			t.Errorf("Sqrt(%d), Up(%d) = %d, %d, want 0, 0", n, n, a, b)
		}
	}
}

// checkMulDiv holds MulDiv and MulDivUp of a, b, c against the exact value.
func checkMulDiv(t *testing.T, a, b, c int64) {
	t.Helper()
	down, up := answer{0, api.ErrArg}, answer{0, api.ErrArg}
	if c != 0 {
		product := new(big.Int).Mul(big.NewInt(a), big.NewInt(b))
		down = fitted(quotientBelow(product, big.NewInt(c)))
		up = fitted(quotientAbove(product, big.NewInt(c)))
	}
	if got := answerOf(root.MulDiv(a, b, c)); got != down {
		t.Errorf("MulDiv(%d, %d, %d) = %v, want %v", a, b, c, got, down)
	}
	if got := answerOf(root.MulDivUp(a, b, c)); got != up {
		t.Errorf("MulDivUp(%d, %d, %d) = %v, want %v", a, b, c, got, up)
	}
}

func TestP2_2_MulDivOfSmallNumbers(t *testing.T) {
	for a := int64(-9); a <= 9; a++ {
		for b := int64(-9); b <= 9; b++ {
			for c := int64(-9); c <= 9; c++ {
				checkMulDiv(t, a, b, c)
			}
		}
	}
}

func TestP2_2_MulDivOfAllLengths(t *testing.T) {
	for _, a := range int64s() {
		for _, b := range int64s() {
			for _, c := range int64s() {
				checkMulDiv(t, a, b, c)
			}
		}
	}
	from := source(3)
	for range 50000 {
		checkMulDiv(t, from.short(), from.short(), from.short())
	}
}

// TestP2_2_MulDivAtTheLimits: 2^64 - 1 is 4294967295 * 4294967297, and 2^64 + 1 is
// 274177 * 67280421310721; half of them is beside the ends of int64.
func TestP2_2_MulDivAtTheLimits(t *testing.T) {
	const (
		most  = math.MaxInt64
		least = math.MinInt64
	)
	over := answer{0, api.ErrOver}
	for _, x := range []struct {
		a, b, c  int64
		down, up answer
	}{
		{4294967295, 4294967297, 2, answer{most, api.OK}, over},
		{4294967295, -4294967297, 2, answer{least, api.OK}, answer{least + 1, api.OK}},
		{4294967295, 4294967297, -2, answer{least, api.OK}, answer{least + 1, api.OK}},
		{-4294967295, 4294967297, -2, answer{most, api.OK}, over},
		{274177, 67280421310721, 2, over, over},
		{-274177, 67280421310721, 2, over, answer{least, api.OK}},
		{274177, 67280421310721, -2, over, answer{least, api.OK}},
		{-274177, -67280421310721, -2, over, answer{least, api.OK}},
		{most, most, most, answer{most, api.OK}, answer{most, api.OK}},
		{least, least, least, answer{least, api.OK}, answer{least, api.OK}},
		{least, 1, 1, answer{least, api.OK}, answer{least, api.OK}},
		{least, 1, -1, over, over},
		{least, -1, 1, over, over},
		{least, -1, -1, answer{least, api.OK}, answer{least, api.OK}},
		{most, 1, -1, answer{-most, api.OK}, answer{-most, api.OK}},
		{most, most, least, answer{-most, api.OK}, answer{-most + 1, api.OK}},
		{least, most, most, answer{least, api.OK}, answer{least, api.OK}},
		{least, least, most, over, over},
		{least, least, 1, over, over},
		{1, 1, most, answer{0, api.OK}, answer{1, api.OK}},
		{1, 1, least, answer{-1, api.OK}, answer{0, api.OK}},
	} {
		if got := answerOf(root.MulDiv(x.a, x.b, x.c)); got != x.down {
			t.Errorf("MulDiv(%d, %d, %d) = %v, want %v", x.a, x.b, x.c, got, x.down)
		}
		if got := answerOf(root.MulDivUp(x.a, x.b, x.c)); got != x.up {
			t.Errorf("MulDivUp(%d, %d, %d) = %v, want %v", x.a, x.b, x.c, got, x.up)
		}
	}
}

func TestP2_2_MulDivBy0(t *testing.T) {
	for _, a := range int64s() {
		for _, b := range int64s() {
			if got := answerOf(root.MulDiv(a, b, 0)); got != (answer{0, api.ErrArg}) {
				t.Errorf("MulDiv(%d, %d, 0) = %v", a, b, got)
			}
			if got := answerOf(root.MulDivUp(a, b, 0)); got != (answer{0, api.ErrArg}) {
				t.Errorf("MulDivUp(%d, %d, 0) = %v", a, b, got)
			}
		}
	}
}

// checkQuotients holds Floor, Ceil and Near of a, b, which are not over, against
// the exact value.
func checkQuotients(t *testing.T, a, b *big.Int) {
	t.Helper()
	wa, wb := wideOf(t, a), wideOf(t, b)
	down, up, near := answer{0, api.ErrArg}, answer{0, api.ErrArg}, answer{0, api.ErrArg}
	if b.Sign() > 0 {
		down, up = fitted(quotientBelow(a, b)), fitted(quotientAbove(a, b))
		near = nearest(a, b)
	}
	for _, x := range []struct {
		name      string
		got, want answer
	}{
		{"Floor", answerOf(root.Floor(wa, wb)), down},
		{"Ceil", answerOf(root.Ceil(wa, wb)), up},
		{"Near", answerOf(root.Near(wa, wb)), near},
	} {
		if x.got != x.want {
			t.Errorf("%s(%s, %s) = %v, want %v", x.name, a.Text(16), b.Text(16), x.got, x.want)
		}
	}
}

// nearest is what Near returns for b above 0. A double that is over stays over,
// whatever is added to it.
func nearest(a, b *big.Int) answer {
	doubleA, doubleB := new(big.Int).Lsh(a, 1), new(big.Int).Lsh(b, 1)
	total := new(big.Int).Add(doubleA, b)
	if isOver(doubleA) || isOver(total) || isOver(doubleB) {
		return answer{0, api.ErrOver}
	}
	return fitted(quotientBelow(total, doubleB))
}

func TestP2_2_QuotientsOfSmallNumbers(t *testing.T) {
	for a := int64(-60); a <= 60; a++ {
		for b := int64(-3); b <= 25; b++ {
			checkQuotients(t, big.NewInt(a), big.NewInt(b))
		}
	}
}

func TestP2_2_QuotientsOfAllLengths(t *testing.T) {
	for _, a := range edges() {
		for _, b := range edges() {
			checkQuotients(t, a, b)
		}
	}
	from := source(4)
	for range 20000 {
		length := 1 + from.below(api.MaxBits)
		checkQuotients(t, from.long(length), from.long(1+from.below(length)))
	}
}

// TestP2_2_QuotientsAtTheLimits: the quotient is an end of int64 or the number
// beside it, and the rest is least, half of the divisor, or greatest.
func TestP2_2_QuotientsAtTheLimits(t *testing.T) {
	from := source(5)
	for length := 1; length <= api.MaxBits; length += 3 {
		b := new(big.Int).Abs(from.long(length))
		b.SetBit(b, 0, uint(length%2))
		b.SetBit(b, length-1, 1)
		half := new(big.Int).Rsh(b, 1)
		for _, end := range []*big.Int{big.NewInt(0), big.NewInt(math.MaxInt64), big.NewInt(math.MinInt64)} {
			for d := int64(-2); d <= 2; d++ {
				exact := new(big.Int).Mul(sum(end, d), b)
				for _, rest := range []*big.Int{big.NewInt(0), big.NewInt(1), sum(half, -1), half, sum(half, 1), sum(b, -1)} {
					if a := new(big.Int).Add(exact, rest); !isOver(a) {
						checkQuotients(t, a, b)
					}
				}
			}
		}
	}
}

// TestP2_2_NearRoundsHalvesUp: of two nearest integers, the greater one.
func TestP2_2_NearRoundsHalvesUp(t *testing.T) {
	for _, x := range []struct{ a, b, want int64 }{
		{1, 2, 1}, {-1, 2, 0}, {3, 2, 2}, {-3, 2, -1}, {5, 10, 1}, {-5, 10, 0}, {4, 10, 0}, {6, 10, 1}, {-6, 10, -1}, {-4, 10, 0},
		{1, 3, 0}, {2, 3, 1}, {-1, 3, 0}, {-2, 3, -1}, {7, 1, 7}, {-7, 1, -7}, {0, 9, 0}, {math.MaxInt64, 2, 1 << 62}, {math.MinInt64, 1, math.MinInt64},
	} {
		if got := answerOf(root.Near(wide.Of(x.a), wide.Of(x.b))); got != (answer{x.want, api.OK}) {
			t.Errorf("Near(%d, %d) = %v, want %d", x.a, x.b, got, x.want)
		}
	}
}

// TestP2_2_NearOfDoublesThatAreOver: Floor and Ceil of the same operands are not
// refused.
func TestP2_2_NearOfDoublesThatAreOver(t *testing.T) {
	half := powerOf2(api.MaxBits - 1)
	over := answer{0, api.ErrOver}
	for _, x := range []struct {
		a, b *big.Int
		near answer
	}{
		{sum(half, -1), sum(half, -1), over},          // 2a + b
		{half, powerOf2(1000), over},                  // 2a
		{new(big.Int).Neg(half), sum(half, -1), over}, // 2a
		{big.NewInt(0), half, over},                   // 2b
		{big.NewInt(1), greatest(), over},             // 2b and 2a + b
		{big.NewInt(0), sum(half, -1), answer{0, api.OK}},
		{sum(powerOf2(api.MaxBits-2), -1), sum(half, -1), answer{0, api.OK}},
		{powerOf2(api.MaxBits - 2), sum(half, -1), answer{1, api.OK}},
		{new(big.Int).Neg(sum(half, -1)), sum(half, -1), answer{-1, api.OK}},
	} {
		a, b := wideOf(t, x.a), wideOf(t, x.b)
		if got := answerOf(root.Near(a, b)); got != x.near {
			t.Errorf("Near(%s, %s) = %v, want %v", x.a.Text(16), x.b.Text(16), got, x.near)
		}
		if got, want := answerOf(root.Floor(a, b)), fitted(quotientBelow(x.a, x.b)); got != want {
			t.Errorf("Floor(%s, %s) = %v, want %v", x.a.Text(16), x.b.Text(16), got, want)
		}
		if got, want := answerOf(root.Ceil(a, b)), fitted(quotientAbove(x.a, x.b)); got != want {
			t.Errorf("Ceil(%s, %s) = %v, want %v", x.a.Text(16), x.b.Text(16), got, want)
		}
	}
}

// refusedQuotients holds that Floor, Ceil and Near return this Errno, and 0.
func refusedQuotients(t *testing.T, a, b wide.Int, errno api.Errno) {
	t.Helper()
	for name, divide := range map[string]func(a, b wide.Int) (int64, api.Errno){"Floor": root.Floor, "Ceil": root.Ceil, "Near": root.Near} {
		if got := answerOf(divide(a, b)); got != (answer{0, errno}) {
			t.Errorf("%s(%s, %s) = %v, want Errno %d", name, wide.Text(a), wide.Text(b), got, errno)
		}
	}
}

// TestP2_2_QuotientsOfOver: an operand that is over counts before a divisor that is
// not positive.
func TestP2_2_QuotientsOfOver(t *testing.T) {
	for _, o := range overs() {
		for _, x := range edges() {
			refusedQuotients(t, o, wideOf(t, x), api.ErrOver)
			refusedQuotients(t, wideOf(t, x), o, api.ErrOver)
		}
		for _, p := range overs() {
			refusedQuotients(t, o, p, api.ErrOver)
		}
	}
}

// TestP2_2_DivisorsThatAreNotPositive: they count before a result that does not fit,
// and before a double that is over.
func TestP2_2_DivisorsThatAreNotPositive(t *testing.T) {
	for _, b := range edges() {
		if b.Sign() > 0 {
			continue
		}
		for _, a := range edges() {
			refusedQuotients(t, wideOf(t, a), wideOf(t, b), api.ErrArg)
		}
	}
}

// wideRootArguments are numbers that are not negative, up to the greatest: squares
// and the numbers beside them, edges, and numbers of all lengths.
func wideRootArguments() []*big.Int {
	var list []*big.Int
	from := source(6)
	addBeside := func(r *big.Int) {
		square := new(big.Int).Mul(r, r)
		for d := int64(-1); d <= 1; d++ {
			if x := sum(square, d); x.Sign() >= 0 && !isOver(x) {
				list = append(list, x)
			}
		}
	}
	for length := 1; length <= 512; length++ {
		addBeside(new(big.Int).Abs(from.long(length)))
		addBeside(powerOf2(uint(length - 1)))
	}
	for d := int64(-2); d <= 2; d++ {
		addBeside(sum(powerOf2(63), d))
	}
	for _, x := range edges() {
		list = append(list, new(big.Int).Abs(x))
	}
	for length := 1; length <= api.MaxBits; length++ {
		list = append(list, new(big.Int).Abs(from.long(length)))
	}
	return list
}

func TestP2_3_RootsOfWideNumbers(t *testing.T) {
	for _, x := range wideRootArguments() {
		a := wideOf(t, x)
		if got, want := answerOf(root.WideDown(a)), fitted(rootBelow(x)); got != want {
			t.Errorf("WideDown(%s) = %v, want %v", x.Text(16), got, want)
		}
		if got, want := answerOf(root.WideUp(a)), fitted(rootAbove(x)); got != want {
			t.Errorf("WideUp(%s) = %v, want %v", x.Text(16), got, want)
		}
	}
}

// TestP2_3_RootsAtTheLimits: the square of the greatest int64 is the greatest number
// whose root fits if it is rounded up; rounded down, that of 2^126 - 1 fits, too.
func TestP2_3_RootsAtTheLimits(t *testing.T) {
	most := big.NewInt(math.MaxInt64)
	square := new(big.Int).Mul(most, most)
	over, fits := answer{0, api.ErrOver}, answer{math.MaxInt64, api.OK}
	for _, x := range []struct {
		a        *big.Int
		down, up answer
	}{
		{big.NewInt(0), answer{0, api.OK}, answer{0, api.OK}},
		{big.NewInt(1), answer{1, api.OK}, answer{1, api.OK}},
		{big.NewInt(2), answer{1, api.OK}, answer{2, api.OK}},
		{sum(square, -1), answer{math.MaxInt64 - 1, api.OK}, fits},
		{square, fits, fits},
		{sum(square, 1), fits, over},
		{sum(powerOf2(126), -1), fits, over},
		{powerOf2(126), over, over},
		{sum(powerOf2(126), 1), over, over},
		{powerOf2(127), over, over},
		{powerOf2(128), over, over},
		{powerOf2(1022), over, over},
		{greatest(), over, over},
	} {
		if got := answerOf(root.WideDown(wideOf(t, x.a))); got != x.down {
			t.Errorf("WideDown(%s) = %v, want %v", x.a.Text(16), got, x.down)
		}
		if got := answerOf(root.WideUp(wideOf(t, x.a))); got != x.up {
			t.Errorf("WideUp(%s) = %v, want %v", x.a.Text(16), got, x.up)
		}
	}
}

func refusedRoots(t *testing.T, a wide.Int, errno api.Errno) {
	t.Helper()
	if got := answerOf(root.WideDown(a)); got != (answer{0, errno}) {
		t.Errorf("WideDown(%s) = %v, want Errno %d", wide.Text(a), got, errno)
	}
	if got := answerOf(root.WideUp(a)); got != (answer{0, errno}) {
		t.Errorf("WideUp(%s) = %v, want Errno %d", wide.Text(a), got, errno)
	}
}

// TestP2_3_RefusedRoots: a negative number counts before a result that does not fit.
func TestP2_3_RefusedRoots(t *testing.T) {
	for _, o := range overs() {
		refusedRoots(t, o, api.ErrOver)
	}
	for _, x := range edges() {
		if x.Sign() < 0 {
			refusedRoots(t, wideOf(t, x), api.ErrArg)
		}
	}
}

// checkApart holds that the results of rounding down and up differ by at most 1, and
// are equal exactly if the value is an integer.
func checkApart(t *testing.T, what string, down, up int64, integer bool) {
	t.Helper()
	difference := uint64(up) - uint64(down)
	if difference > 1 || (difference == 0) != integer {
		t.Errorf("%s: down %d, up %d, integer: %t", what, down, up, integer)
	}
}

func TestP2_4_Roots(t *testing.T) {
	for _, n := range squaresAndBeside() {
		down := root.Sqrt(n)
		checkApart(t, "roots of "+big.NewInt(n).String(), down, root.Up(n), n < 1 || down*down == n)
	}
	for _, x := range wideRootArguments() {
		down, errno := root.WideDown(wideOf(t, x))
		up, errnoUp := root.WideUp(wideOf(t, x))
		if errno == api.OK && errnoUp == api.OK {
			d := big.NewInt(down)
			checkApart(t, "roots of "+x.String(), down, up, d.Mul(d, d).Cmp(x) == 0)
		}
	}
}

func TestP2_4_Quotients(t *testing.T) {
	from := source(7)
	both := 0
	for range 30000 {
		a, b, c := from.short(), from.short(), from.short()|1
		product := new(big.Int).Mul(big.NewInt(a), big.NewInt(b))
		integer := new(big.Int).Rem(product, big.NewInt(c)).Sign() == 0
		down, errno := root.MulDiv(a, b, c)
		up, errnoUp := root.MulDivUp(a, b, c)
		if errno == api.OK && errnoUp == api.OK {
			checkApart(t, "MulDiv", down, up, integer)
			both++
		}
		divisor := new(big.Int).Abs(big.NewInt(c))
		down, errno = root.Floor(wideOf(t, product), wideOf(t, divisor))
		up, errnoUp = root.Ceil(wideOf(t, product), wideOf(t, divisor))
		if errno == api.OK && errnoUp == api.OK {
			checkApart(t, "Floor and Ceil", down, up, integer)
			both++
		}
	}
	if both < 10000 {
		t.Errorf("only %d quotients were compared", both)
	}
}
