package num

import (
	"iter"
	"slices"

	"ringdown/api"
)

// CheckPoly returns ErrShape if p has too many coefficients, and ErrNum unless all are valid.
func CheckPoly(p []api.Num) api.Errno {
	_, e := readPoly(p)
	return e
}

// At returns the value of p at x.
func At(p []api.Num, x api.Num) (api.Num, api.Errno) {
	coefficients, e := readPoly(p)
	if e != api.OK {
		return "", e
	}
	place, e := read(x)
	if e != api.OK {
		return "", e
	}
	// Lowest terms in each step would take longer than in the last one alone.
	next := place.product
	total := valueOf(0)
	for _, c := range slices.Backward(coefficients) {
		total = next(total).plus(c)
	}
	return write(total)
}

// PolyAdd returns the sum of p and q.
func PolyAdd(p, q []api.Num) ([]api.Num, api.Errno) { return polyOfTwo(p, q, value.plus) }

// PolySub returns p less q.
func PolySub(p, q []api.Num) ([]api.Num, api.Errno) { return polyOfTwo(p, q, value.less) }

// PolyMul returns the product of p and q.
func PolyMul(p, q []api.Num) ([]api.Num, api.Errno) {
	a, b, e := readPolys(p, q)
	switch {
	case e != api.OK:
		return nil, e
	case len(a) == 0 || len(b) == 0:
		return nil, api.OK
	case len(a)+len(b)-1 > api.MaxPoly:
		return nil, api.ErrShape
	}
	product := make([]value, len(a)+len(b)-1)
	slices.Reverse(b)
	for k := range product {
		// b is in reverse: b[last-j] belongs to x^j, and to a[k-j].
		last := len(b) - 1
		from := max(0, k-last)
		product[k] = dot(a[from:min(k+1, len(a))], b[last-k+from:])
	}
	return writeAll(product)
}

// Divide returns the quotient and the rest of p divided by q.
func Divide(p, q []api.Num) (quotient, rest []api.Num, e api.Errno) {
	a, b, e := readPolys(p, q)
	switch {
	case e != api.OK:
		return nil, nil, e
	case len(b) == 0:
		return nil, nil, api.ErrZero
	}
	quotient = make([]api.Num, max(0, len(a)-len(b)+1))
	for k, c := range quotients(a, b) {
		// No other error can come now, whichever coefficient is too big.
		if quotient[k], e = write(c); e != api.OK {
			return nil, nil, e
		}
	}
	rest, e = writeAll(withoutZeros(a[:min(len(a), len(b)-1)]))
	if e != api.OK {
		return nil, nil, e
	}
	return quotient, rest, api.OK
}

// quotients gives the coefficients of p divided by q, which is not 0, the highest one first, and leaves the rest in p.
func quotients(p, q []value) iter.Seq2[int, value] {
	return func(yield func(int, value) bool) {
		highest := q[len(q)-1].inverse()
		for k := len(p) - len(q); k >= 0; k-- {
			c := p[k+len(q)-1].times(highest)
			for j, factor := range q {
				p[k+j] = p[k+j].less(c.times(factor))
			}
			if !yield(k, c) {
				return
			}
		}
	}
}

// Common returns the monic polynomial of greatest degree that divides both p and q.
func Common(p, q []api.Num) ([]api.Num, api.Errno) {
	a, b, e := readPolys(p, q)
	if e != api.OK {
		return nil, e
	}
	first, second := wholePoly(a), wholePoly(b)
	if len(a) > 0 && len(b) > 0 && areApart(first, second) {
		return []api.Num{"1"}, api.OK
	}
	return writeAll(lastOf(chain(first, second)).monic())
}

// Derive returns the derivative of p.
func Derive(p []api.Num) ([]api.Num, api.Errno) {
	coefficients, e := readPoly(p)
	if e != api.OK {
		return nil, e
	}
	list := make([]value, max(0, len(coefficients)-1))
	for k := range list {
		list[k] = coefficients[k+1].times(valueOf(k + 1))
	}
	return writeAll(list)
}

// Count returns how many different real zeros p has that are greater than low, and at most high.
func Count(p []api.Num, low, high api.Num) (int, api.Errno) {
	coefficients, e := readPoly(p)
	if e != api.OK {
		return 0, e
	}
	from, to, e := readTwo(low, high)
	if e != api.OK {
		return 0, e
	}
	isComplex := func(a value) bool { return !a.isReal() }
	switch {
	case slices.ContainsFunc(coefficients, isComplex) || isComplex(from) || isComplex(to):
		return 0, api.ErrReal
	case len(coefficients) == 0:
		return 0, api.ErrZero
	case from.compare(to) > 0:
		return 0, api.ErrRange
	}
	return zerosBetween(wholePoly(coefficients), from, to), api.OK
}

func polyOfTwo(p, q []api.Num, f func(value, value) value) ([]api.Num, api.Errno) {
	a, b, e := readPolys(p, q)
	if e != api.OK {
		return nil, e
	}
	list := make([]value, max(len(a), len(b)))
	for k := range list {
		list[k] = f(coefficient(a, k), coefficient(b, k))
	}
	return writeAll(withoutZeros(list))
}

func coefficient(p []value, k int) value {
	if k < len(p) {
		return p[k]
	}
	return valueOf(0)
}

// readPoly returns the coefficients of p, the last one not 0.
func readPoly(p []api.Num) ([]value, api.Errno) {
	list, e := readAll(p, api.MaxPoly, api.ErrShape, read)
	return withoutZeros(list), e
}

func readPolys(p, q []api.Num) (a, b []value, e api.Errno) {
	if a, e = readPoly(p); e != api.OK {
		return nil, nil, e
	}
	if b, e = readPoly(q); e != api.OK {
		return nil, nil, e
	}
	return a, b, api.OK
}

func withoutZeros(p []value) []value {
	for len(p) > 0 && p[len(p)-1].isZero() {
		p = p[:len(p)-1]
	}
	return p
}
