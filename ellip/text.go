package ellip

import (
	"strconv"
	"strings"

	"alidade/api"
)

// Text returns e as X,Y/A,B,D.
func Text(e api.Ellipse) string {
	return decimal(e.C.X) + "," + decimal(e.C.Y) + "/" +
		decimal(e.P.A) + "," + decimal(e.P.B) + "," + decimal(e.P.D)
}

// Parse returns the valid ellipse whose Text is s.
func Parse(s string) (api.Ellipse, bool) {
	// Whatever is wrong with s, the text of what was read from it is another one.
	e := read(s)
	if !May(e) || Text(e) != s {
		return api.Ellipse{}, false
	}
	return e, true
}

// read returns the ellipse whose Text is s, and any other one if there is none.
func read(s string) api.Ellipse {
	centre, matrix, _ := strings.Cut(s, "/")
	x, y, _ := strings.Cut(centre, ",")
	a, others, _ := strings.Cut(matrix, ",")
	b, d, _ := strings.Cut(others, ",")
	return api.Ellipse{
		C: api.Point{X: number(x), Y: number(y)},
		P: api.Sym{A: number(a), B: number(b), D: number(d)},
	}
}

func decimal(n int64) string { return strconv.FormatInt(n, 10) }

// number returns the number whose decimal is s, and any other one if there is none.
func number(s string) int64 {
	n, _ := strconv.ParseInt(s, 10, 64)
	return n
}
