package wide_test

import (
	"math"
	"math/big"
	"strings"
	"testing"

	"alidade/api"
	"alidade/wide"
)

func TestP1_1_ZeroIntIs0(t *testing.T) {
	var zero wide.Int
	if wide.Text(zero) != "0" || zero != wide.Of(0) || wide.Over(zero) || wide.Sign(zero) != 0 {
		t.Errorf("the zero Int is %s", wide.Text(zero))
	}
	if c, ok := wide.Cmp(zero, wide.Sub(wide.Of(5), wide.Of(5))); c != 0 || !ok {
		t.Errorf("Cmp(zero, 5 - 5) = %d, %t", c, ok)
	}
}

func TestP1_1_TextOfInt64s(t *testing.T) {
	for n, want := range map[int64]string{
		0: "0", 1: "1", -1: "-1", 9: "9", 10: "a", 15: "f", 16: "10", 255: "ff", -255: "-ff", -4096: "-1000",
		0x123456789abcdef: "123456789abcdef",
		math.MaxInt64:     "7fffffffffffffff",
		math.MinInt64:     "-8000000000000000",
		math.MinInt64 + 1: "-7fffffffffffffff",
	} {
		if got := wide.Text(wide.Of(n)); got != want {
			t.Errorf("Text(Of(%d)) = %s, want %s", n, got, want)
		}
	}
}

func TestP1_1_TextAndParseAreInverse(t *testing.T) {
	for _, x := range singles() {
		s := x.Text(16)
		a, ok := wide.Parse(s)
		if got := wide.Text(a); !ok || got != s {
			t.Errorf("Text(Parse(%s)) = %s, %t", s, got, ok)
		}
	}
}

func TestP1_1_ParseAtTheLimits(t *testing.T) {
	top := "7" + strings.Repeat("f", 255)
	for _, s := range []string{top, "-" + top, "1" + strings.Repeat("0", 255), "-4" + strings.Repeat("0", 255)} {
		if a := parsed(t, s); wide.Text(a) != s {
			t.Errorf("Text(Parse(%s)) = %s", s, wide.Text(a))
		}
	}
	over := "8" + strings.Repeat("0", 255)
	for _, s := range []string{over, "-" + over, strings.Repeat("f", 256), "-" + strings.Repeat("f", 256), strings.Repeat("1", 257), "-1" + strings.Repeat("0", 256)} {
		refused(t, s)
	}
	// No Text has more than 257 bytes, so that these are refused on both sides
	// of the limit of 300 bytes.
	for _, length := range []int{258, 299, 300, 301, 302, 1000, 1 << 20} {
		for _, digit := range []string{"0", "1", "f", "-", "\x00"} {
			refused(t, strings.Repeat(digit, length))
		}
		refused(t, strings.Repeat("0", length-1)+"1")
		refused(t, "-"+strings.Repeat("1", length-1))
	}
}

func refused(t *testing.T, s string) {
	t.Helper()
	if a, ok := wide.Parse(s); ok || a != (wide.Int{}) {
		t.Errorf("Parse of %d bytes, %.40q = %s, %t", len(s), s, wide.Text(a), ok)
	}
}

func TestP1_1_ParseRefusesWhatIsNoText(t *testing.T) {
	for _, s := range []string{
		"", "-", "--1", "-0", "00", "-00", "01", "-01", "0f", "over", "-over", "ove", "+1", "0x1", "0X1", "A", "fF", "g", "-g", "/", ":", "`", "@", "G",
		" 1", "1 ", "1-", "1_0", "1\n", "\x001", "1.0", "f\xff", "é", "٣", "−1",
	} {
		refused(t, s)
	}
}

// TestP1_1_ParseOfAllShortStrings: each string is parsed exactly if it is a text.
func TestP1_1_ParseOfAllShortStrings(t *testing.T) {
	const letters = "-+019afgAF/:@` "
	texts := map[string]bool{}
	for n := int64(-0xffff); n <= 0xffff; n++ {
		texts[wide.Text(wide.Of(n))] = true
	}
	var walk func(s string)
	walk = func(s string) {
		a, ok := wide.Parse(s)
		if ok != texts[s] || ok && wide.Text(a) != s || !ok && a != (wide.Int{}) {
			t.Errorf("Parse(%q) = %s, %t", s, wide.Text(a), ok)
		}
		if len(s) < 4 {
			for _, c := range letters {
				walk(s + string(c))
			}
		}
	}
	walk("")
}

func TestP1_1_TextOfOver(t *testing.T) {
	for i, o := range overs() {
		if wide.Text(o) != overText {
			t.Errorf("Text of over %d = %s", i, wide.Text(o))
		}
	}
}

func TestP1_2_SumsAndProducts(t *testing.T) {
	for _, p := range pairs() {
		a, b := wideOf(t, p[0]), wideOf(t, p[1])
		for name, r := range map[string]struct {
			got  wide.Int
			want *big.Int
		}{
			"Add": {wide.Add(a, b), new(big.Int).Add(p[0], p[1])},
			"Sub": {wide.Sub(a, b), new(big.Int).Sub(p[0], p[1])},
			"Mul": {wide.Mul(a, b), new(big.Int).Mul(p[0], p[1])},
			"Neg": {wide.Neg(a), new(big.Int).Neg(p[0])},
		} {
			if got, want := wide.Text(r.got), textOf(r.want); got != want {
				t.Fatalf("%s(%s, %s) = %s, want %s", name, p[0].Text(16), p[1].Text(16), got, want)
			}
			if wide.Over(r.got) != (r.want.BitLen() > api.MaxBits) {
				t.Fatalf("%s(%s, %s): Over = %t", name, p[0].Text(16), p[1].Text(16), wide.Over(r.got))
			}
		}
		if a != wideOf(t, p[0]) || b != wideOf(t, p[1]) {
			t.Fatalf("an operand of %s, %s has changed", p[0].Text(16), p[1].Text(16))
		}
	}
}

// TestP1_2_ProductsAtTheLimit: products whose length is MaxBits, or one more.
func TestP1_2_ProductsAtTheLimit(t *testing.T) {
	from := source(3)
	for k := 1; k < api.MaxBits; k++ {
		p := new(big.Int).Abs(from.number(k))
		p.SetBit(p, k-1, 1)
		least := new(big.Int).Div(greatest(), p)
		for _, q := range []*big.Int{least, new(big.Int).Add(least, big.NewInt(1)), new(big.Int).Neg(least)} {
			if q.BitLen() > api.MaxBits {
				continue
			}
			want := textOf(new(big.Int).Mul(p, q))
			if got := wide.Text(wide.Mul(wideOf(t, p), wideOf(t, q))); got != want {
				t.Errorf("Mul(%s, %s) = %s, want %s", p.Text(16), q.Text(16), got, want)
			}
		}
	}
}

func TestP1_2_SumsAtTheLimit(t *testing.T) {
	top, one := wideOf(t, greatest()), wide.Of(1)
	low := wide.Neg(top)
	for i, o := range []wide.Int{wide.Add(top, one), wide.Add(one, top), wide.Sub(low, one), wide.Sub(one, low), wide.Add(top, top), wide.Add(low, low)} {
		if !wide.Over(o) {
			t.Errorf("sum %d is not over", i)
		}
	}
	for i, z := range []wide.Int{wide.Sub(top, top), wide.Add(top, low), wide.Add(low, top), wide.Neg(wide.Of(0)), wide.Mul(low, wide.Of(0)), wide.Mul(wide.Of(0), low)} {
		if z != (wide.Int{}) || wide.Text(z) != "0" {
			t.Errorf("zero %d is %s", i, wide.Text(z))
		}
	}
	if wide.Mul(top, one) != top || wide.Mul(top, wide.Of(-1)) != low || wide.Neg(low) != top {
		t.Error("the greatest times 1 or -1 is another number")
	}
}

// shiftedBig is x * 2^k, rounded down: Rsh of big rounds toward negative infinity.
func shiftedBig(x *big.Int, k int) *big.Int {
	if k >= 0 {
		return new(big.Int).Lsh(x, uint(k))
	}
	return new(big.Int).Rsh(x, uint(-k))
}

func TestP1_2_Shift(t *testing.T) {
	from := source(4)
	list := append(edges(), from.number(1023), from.number(1000), from.number(300), from.number(65))
	for _, x := range list {
		a := wideOf(t, x)
		for k := -1100; k <= 1100; k++ {
			if got, want := wide.Text(wide.Shift(a, k)), textOf(shiftedBig(x, k)); got != want {
				t.Fatalf("Shift(%s, %d) = %s, want %s", x.Text(16), k, got, want)
			}
		}
	}
}

func TestP1_2_ShiftFarToEitherSide(t *testing.T) {
	top := wideOf(t, greatest())
	for _, far := range []int{1023, 1024, 1 << 20, 1 << 31, 1 << 32, 1 << 62, math.MaxInt - 1024, math.MaxInt - 1, math.MaxInt} {
		for _, x := range []struct {
			name string
			got  wide.Int
			want string
		}{
			{"0 up", wide.Shift(wide.Of(0), far), "0"},
			{"0 down", wide.Shift(wide.Of(0), -far), "0"},
			{"1 up", wide.Shift(wide.Of(1), far), overText},
			{"-1 up", wide.Shift(wide.Of(-1), far), overText},
			{"the greatest up", wide.Shift(top, far), overText},
			{"1 down", wide.Shift(wide.Of(1), -far), "0"},
			{"-1 down", wide.Shift(wide.Of(-1), -far-1), "-1"},
			{"the greatest down", wide.Shift(top, -far), "0"},
			{"the least down", wide.Shift(wide.Neg(top), -far-1), "-1"},
		} {
			if got := wide.Text(x.got); got != x.want {
				t.Errorf("Shift of %s by %d = %s, want %s", x.name, far, got, x.want)
			}
		}
	}
}

func TestP1_2_OverStaysOver(t *testing.T) {
	others := append(overs(), wide.Of(0), wide.Of(1), wide.Of(-1), wide.Of(math.MinInt64), wideOf(t, greatest()))
	for i, o := range overs() {
		results := []wide.Int{wide.Neg(o)}
		for _, k := range []int{math.MinInt, -5000, -1023, -1, 0, 1, 1023, math.MaxInt} {
			results = append(results, wide.Shift(o, k))
		}
		for _, b := range others {
			results = append(results, wide.Add(o, b), wide.Add(b, o), wide.Sub(o, b), wide.Sub(b, o), wide.Mul(o, b), wide.Mul(b, o))
		}
		for j, r := range results {
			if !wide.Over(r) || wide.Text(r) != overText {
				t.Errorf("over %d, result %d = %s", i, j, wide.Text(r))
			}
		}
	}
}

// floorDiv is a / b, rounded down.
func floorDiv(a, b *big.Int) *big.Int {
	q, m := new(big.Int).DivMod(a, b, new(big.Int))
	if b.Sign() < 0 && m.Sign() != 0 {
		q.Sub(q, big.NewInt(1))
	}
	return q
}

func checkDiv(t *testing.T, a, b *big.Int) {
	t.Helper()
	if b.Sign() == 0 {
		return
	}
	q, e := wide.Div(wideOf(t, a), wideOf(t, b))
	if got, want := wide.Text(q), textOf(floorDiv(a, b)); e != api.OK || got != want {
		t.Fatalf("Div(%s, %s) = %s, %d, want %s", a.Text(16), b.Text(16), got, e, want)
	}
}

func TestP1_3_DivRoundsDown(t *testing.T) {
	for _, x := range []struct {
		a, b int64
		want string
	}{
		{-7, 2, "-4"}, {7, 2, "3"}, {7, -2, "-4"}, {-7, -2, "3"}, {6, 2, "3"}, {-6, 2, "-3"}, {6, -2, "-3"}, {-6, -2, "3"},
		{0, 5, "0"}, {0, -5, "0"}, {1, 100, "0"}, {-1, 100, "-1"}, {1, -100, "-1"}, {-1, -100, "0"},
		{math.MinInt64, -1, "8000000000000000"}, {math.MinInt64, 1, "-8000000000000000"}, {math.MaxInt64, math.MinInt64, "-1"}, {math.MinInt64, math.MaxInt64, "-2"},
	} {
		if q, e := wide.Div(wide.Of(x.a), wide.Of(x.b)); e != api.OK || wide.Text(q) != x.want {
			t.Errorf("Div(%d, %d) = %s, %d, want %s", x.a, x.b, wide.Text(q), e, x.want)
		}
	}
}

func TestP1_3_DivOfAllLengths(t *testing.T) {
	for _, p := range pairs() {
		checkDiv(t, p[0], p[1])
	}
}

// TestP1_3_DivNearMultiples: quotients that are exact, or just not, with divisors
// of extreme words, where an estimated digit is too great.
func TestP1_3_DivNearMultiples(t *testing.T) {
	from := source(5)
	for range 20000 {
		length := 1 + from.below(api.MaxBits-1)
		b := from.number(length)
		q := from.number(1 + from.below(api.MaxBits-length))
		for d := int64(-1); d <= 1; d++ {
			a := new(big.Int).Mul(b, q)
			a.Add(a, big.NewInt(d))
			if a.BitLen() <= api.MaxBits {
				checkDiv(t, a, b)
			}
		}
	}
}

func TestP1_3_DivErrors(t *testing.T) {
	zero, one, top := wide.Of(0), wide.Of(1), wideOf(t, greatest())
	type call struct {
		a, b wide.Int
		want api.Errno
	}
	calls := []call{{zero, zero, api.ErrArg}, {one, zero, api.ErrArg}, {wide.Neg(top), zero, api.ErrArg}}
	for _, o := range overs() {
		calls = append(calls, call{o, zero, api.ErrOver}, call{o, one, api.ErrOver}, call{zero, o, api.ErrOver}, call{top, o, api.ErrOver}, call{o, o, api.ErrOver})
	}
	for i, c := range calls {
		if q, e := wide.Div(c.a, c.b); e != c.want || q != (wide.Int{}) {
			t.Errorf("call %d: Div(%s, %s) = %s, %d, want %d", i, wide.Text(c.a), wide.Text(c.b), wide.Text(q), e, c.want)
		}
	}
}

func checkSqrt(t *testing.T, x *big.Int) {
	t.Helper()
	s, e := wide.Sqrt(wideOf(t, x))
	if got, want := wide.Text(s), new(big.Int).Sqrt(x).Text(16); e != api.OK || got != want {
		t.Fatalf("Sqrt(%s) = %s, %d, want %s", x.Text(16), got, e, want)
	}
}

func TestP1_3_Sqrt(t *testing.T) {
	for n := range int64(5000) {
		checkSqrt(t, big.NewInt(n))
	}
	for _, x := range singles() {
		checkSqrt(t, new(big.Int).Abs(x))
	}
	checkSqrt(t, greatest())
}

// TestP1_3_SqrtNearSquares: the root changes exactly at a square.
func TestP1_3_SqrtNearSquares(t *testing.T) {
	from := source(6)
	for bits := 1; bits <= api.MaxBits/2; bits++ {
		for _, r := range []*big.Int{from.number(bits), powerOf2(uint(bits - 1)), new(big.Int).Sub(powerOf2(uint(bits)), big.NewInt(1))} {
			square := new(big.Int).Mul(r, r)
			for d := int64(-1); d <= 1; d++ {
				if x := new(big.Int).Add(square, big.NewInt(d)); x.Sign() >= 0 {
					checkSqrt(t, x)
				}
			}
		}
	}
}

func TestP1_3_SqrtErrors(t *testing.T) {
	for i, o := range overs() {
		if s, e := wide.Sqrt(o); e != api.ErrOver || s != (wide.Int{}) {
			t.Errorf("Sqrt of over %d = %s, %d", i, wide.Text(s), e)
		}
	}
	for _, a := range []wide.Int{wide.Of(-1), wide.Of(-4), wide.Of(math.MinInt64), wide.Neg(wideOf(t, greatest()))} {
		if s, e := wide.Sqrt(a); e != api.ErrArg || s != (wide.Int{}) {
			t.Errorf("Sqrt(%s) = %s, %d", wide.Text(a), wide.Text(s), e)
		}
	}
}

func TestP1_4_Cmp(t *testing.T) {
	for _, p := range pairs() {
		a, b := wideOf(t, p[0]), wideOf(t, p[1])
		if c, ok := wide.Cmp(a, b); c != p[0].Cmp(p[1]) || !ok {
			t.Fatalf("Cmp(%s, %s) = %d, %t", p[0].Text(16), p[1].Text(16), c, ok)
		}
		if c, ok := wide.Cmp(a, a); c != 0 || !ok {
			t.Fatalf("Cmp(%s, itself) = %d, %t", p[0].Text(16), c, ok)
		}
	}
	for i, o := range overs() {
		for _, b := range []wide.Int{wide.Of(0), wide.Of(1), wide.Of(-1), o} {
			if c, ok := wide.Cmp(o, b); c != 0 || ok {
				t.Errorf("Cmp(over %d, %s) = %d, %t", i, wide.Text(b), c, ok)
			}
			if c, ok := wide.Cmp(b, o); c != 0 || ok {
				t.Errorf("Cmp(%s, over %d) = %d, %t", wide.Text(b), i, c, ok)
			}
		}
	}
}

func TestP1_4_SignBitsAndOver(t *testing.T) {
	for _, x := range singles() {
		a := wideOf(t, x)
		if wide.Sign(a) != x.Sign() || wide.Bits(a) != x.BitLen() || wide.Over(a) {
			t.Errorf("%s: Sign %d, Bits %d, Over %t", x.Text(16), wide.Sign(a), wide.Bits(a), wide.Over(a))
		}
	}
	for i, o := range overs() {
		if wide.Sign(o) != 0 || wide.Bits(o) != 0 || !wide.Over(o) {
			t.Errorf("over %d: Sign %d, Bits %d, Over %t", i, wide.Sign(o), wide.Bits(o), wide.Over(o))
		}
	}
	for s, want := range map[string]int{"0": 0, "1": 1, "-1": 1, "-8": 4, "ff": 8, "-100": 9, "7" + strings.Repeat("f", 255): 1023} {
		if got := wide.Bits(parsed(t, s)); got != want {
			t.Errorf("Bits(%s) = %d, want %d", s, got, want)
		}
	}
}

func TestP1_4_Int64(t *testing.T) {
	for _, n := range []int64{0, 1, -1, 255, -256, math.MaxInt64, math.MaxInt64 - 1, math.MinInt64, math.MinInt64 + 1} {
		if got, ok := wide.Int64(wide.Of(n)); got != n || !ok {
			t.Errorf("Int64(Of(%d)) = %d, %t", n, got, ok)
		}
	}
	for _, x := range singles() {
		want := int64(0)
		if x.IsInt64() {
			want = x.Int64()
		}
		if got, ok := wide.Int64(wideOf(t, x)); got != want || ok != x.IsInt64() {
			t.Errorf("Int64(%s) = %d, %t", x.Text(16), got, ok)
		}
	}
	for _, s := range []string{"8000000000000000", "-8000000000000001", "ffffffffffffffff", "-ffffffffffffffff", "10000000000000000", "10000000000000005", "-10000000000000005", "5" + strings.Repeat("0", 240)} {
		if got, ok := wide.Int64(parsed(t, s)); got != 0 || ok {
			t.Errorf("Int64(%s) = %d, %t", s, got, ok)
		}
	}
	for i, o := range overs() {
		if got, ok := wide.Int64(o); got != 0 || ok {
			t.Errorf("Int64 of over %d = %d, %t", i, got, ok)
		}
	}
}

func TestP1_5_ParseOfText(t *testing.T) {
	for _, x := range singles() {
		a := wideOf(t, x)
		if b, ok := wide.Parse(wide.Text(a)); b != a || !ok {
			t.Errorf("Parse(Text(%s)) = %s, %t", x.Text(16), wide.Text(b), ok)
		}
	}
}

func TestP1_5_Remainder(t *testing.T) {
	for _, p := range pairs() {
		a, b := wideOf(t, p[0]), wideOf(t, new(big.Int).Abs(p[1]))
		if wide.Sign(b) == 0 {
			continue
		}
		q, _ := wide.Div(a, b)
		product := wide.Mul(b, q)
		if wide.Over(product) {
			continue
		}
		rest := wide.Sub(a, product)
		if c, ok := wide.Cmp(rest, b); wide.Sign(rest) < 0 || c != -1 || !ok {
			t.Fatalf("the remainder of %s and %s is %s", wide.Text(a), wide.Text(b), wide.Text(rest))
		}
	}
}

func TestP1_5_SquareOfSqrt(t *testing.T) {
	for _, x := range singles() {
		a := wideOf(t, new(big.Int).Abs(x))
		s, _ := wide.Sqrt(a)
		next := wide.Add(s, wide.Of(1))
		if c, ok := wide.Cmp(wide.Mul(s, s), a); c == 1 || !ok {
			t.Errorf("Sqrt(%s)^2 is greater", wide.Text(a))
		}
		if c, ok := wide.Cmp(wide.Mul(next, next), a); ok && c != 1 {
			t.Errorf("(Sqrt(%s) + 1)^2 is not greater", wide.Text(a))
		}
	}
}
