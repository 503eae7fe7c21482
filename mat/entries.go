package mat

import (
	"alidade/api"
	"alidade/wide"
)

// entries are the numbers of a symmetric matrix with the rows a b and b d. They
// are wide because p p' and the difference of two matrices may not fit into an
// api.Sym; none of them comes near to being over.
type entries struct {
	a, b, d wide.Int
}

func widen(m api.Sym) entries {
	return entries{wide.Of(m.A), wide.Of(m.B), wide.Of(m.D)}
}

// square returns p p'.
func square(p api.Point) entries {
	x, y := wide.Of(p.X), wide.Of(p.Y)
	return entries{wide.Mul(x, x), wide.Mul(x, y), wide.Mul(y, y)}
}

func (m entries) minus(n entries) entries {
	return entries{wide.Sub(m.a, n.a), wide.Sub(m.b, n.b), wide.Sub(m.d, n.d)}
}

func (m entries) det() wide.Int {
	return wide.Sub(wide.Mul(m.a, m.d), wide.Mul(m.b, m.b))
}

func (m entries) psd() bool {
	return wide.Sign(m.a) >= 0 && wide.Sign(m.d) >= 0 && wide.Sign(m.det()) >= 0
}

// dot returns the sum of the products of the entries: of m and p p' it is p' m p.
func (m entries) dot(n entries) wide.Int {
	diagonal := wide.Add(wide.Mul(m.a, n.a), wide.Mul(m.d, n.d))
	return wide.Add(diagonal, wide.Shift(wide.Mul(m.b, n.b), 1)) // b stands twice in each
}
