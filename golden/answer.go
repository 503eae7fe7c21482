package golden

// answer is what f returned for a weight.
type answer struct {
	weight int
	value  int64
	has    bool
}

// ask calls f. It takes a panic of f for no value, because Best ends without one,
// whatever f is.
func ask(f func(w int) (int64, bool), w int) (got answer) {
	got.weight = w
	defer func() {
		recover()
	}()
	if value, has := f(w); has {
		got.value, got.has = value, true
	}
	return got
}

// askUnless calls f, unless known is the answer for this weight.
func askUnless(known answer, f func(w int) (int64, bool), w int) answer {
	if w == known.weight {
		return known
	}
	return ask(f, w)
}

// isLess reports whether the value of g is less than that of h. No value counts as
// greater than all others.
func (g answer) isLess(h answer) bool {
	return g.has && (!h.has || g.value < h.value)
}
