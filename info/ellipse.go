package info

import (
	"alidade/api"
	"alidade/ellip"
	"alidade/grow"
	"alidade/mat"
	"alidade/root"
	"alidade/wide"
)

// Ellipse returns an ellipse that contains all points of i.
func Ellipse(i Info) (api.Ellipse, api.Errno) {
	e := exactOf(i)
	switch {
	case e.isOver():
		return api.Ellipse{}, api.ErrOver
	case wide.Sign(i.A) <= 0 || wide.Sign(e.det) <= 0:
		return api.Ellipse{}, api.ErrArg
	case wide.Sign(e.size) < 0:
		return api.Ellipse{}, api.ErrEmpty
	}
	rounded, errno := e.rounded()
	if errno != api.OK {
		return api.Ellipse{}, errno
	}
	// The centre was moved by less than 1 when it was rounded.
	return grow.Ball(rounded, 1)
}

// exact is the ellipse of an Info, with all of its numbers as numerators: those of
// the centre over det, those of the matrix over square.
type exact struct {
	det, square wide.Int // d and its square
	size        wide.Int // R: no point is left if it is negative
	x, y        wide.Int
	a, b, d     wide.Int
}

func exactOf(i Info) exact {
	det := wide.Sub(wide.Mul(i.A, i.D), wide.Mul(i.B, i.B))
	size := sizeOf(i, det)
	return exact{
		det: det, square: wide.Mul(det, det), size: size,
		x: wide.Sub(wide.Mul(i.D, i.U), wide.Mul(i.B, i.V)),
		y: wide.Sub(wide.Mul(i.A, i.V), wide.Mul(i.B, i.U)),
		a: wide.Mul(size, i.D), b: wide.Neg(wide.Mul(size, i.B)), d: wide.Mul(size, i.A),
	}
}

// sizeOf returns R. Its terms are added in the order in which the document lists
// them, because a partial sum that is over stays over.
func sizeOf(i Info, det wide.Int) wide.Int {
	size := wide.Mul(wide.Sub(i.Den, i.Z), det)
	size = wide.Add(size, wide.Mul(i.D, wide.Mul(i.U, i.U)))
	size = wide.Sub(size, product(wide.Of(2), i.B, i.U, i.V))
	return wide.Add(size, wide.Mul(i.A, wide.Mul(i.V, i.V)))
}

// isOver reports whether one of the numbers is over, or a coefficient: each of these
// is in R.
func (e exact) isOver() bool {
	for _, n := range [...]wide.Int{e.det, e.square, e.size, e.x, e.y, e.a, e.b, e.d} {
		if wide.Over(n) {
			return true
		}
	}
	return false
}

// rounded returns the ellipse with integers. The 1 that is added to A and D outweighs
// the rounding of B, which has no outward side.
func (e exact) rounded() (api.Ellipse, api.Errno) {
	var r rounding
	centre := api.Point{X: r.take(root.Near(e.x, e.det)), Y: r.take(root.Near(e.y, e.det))}
	least := api.Sym{
		A: r.take(root.Ceil(e.a, e.square)),
		B: r.take(root.Floor(e.b, e.square)),
		D: r.take(root.Ceil(e.d, e.square)),
	}
	// Where a number would wrap around, the sum is the zero matrix: not a valid one.
	matrix, _ := mat.Add(least, api.Sym{A: 1, D: 1})
	rounded := api.Ellipse{C: centre, P: matrix}
	if r.failed || !ellip.May(rounded) {
		return api.Ellipse{}, api.ErrOver
	}
	return rounded, api.OK
}

// rounding remembers whether one of several calls returned an error.
type rounding struct{ failed bool }

func (r *rounding) take(n int64, errno api.Errno) int64 {
	r.failed = r.failed || errno != api.OK
	return n
}
