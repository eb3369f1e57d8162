// Package num calculates without error with complex rational numbers, polynomials and matrices (chapter 1).
package num

import "ringdown/api"

// mostInt is the greatest magnitude of what Int returns.
const mostInt = 1<<53 - 1

// IsName reports whether s is a name.
func IsName(s string) bool {
	if len(s) == 0 || len(s) > api.MaxWord {
		return false
	}
	for i, c := range []byte(s) {
		isLetter := c >= 'a' && c <= 'z'
		isOther := c >= '0' && c <= '9' || c == '_'
		if !isLetter && !(isOther && i > 0) {
			return false
		}
	}
	return true
}

// Check returns ErrNum unless a is valid.
func Check(a api.Num) api.Errno {
	_, e := read(a)
	return e
}

// Of returns n / d.
func Of(n, d int) (api.Num, api.Errno) {
	if d == 0 {
		return "", api.ErrZero
	}
	top, under := wholeOf(n), wholeOf(d)
	if under.minus {
		top = top.negated()
	}
	return write(fraction(top, under.size))
}

// Join returns x + y i.
func Join(x, y api.Num) (api.Num, api.Errno) {
	a, b, e := readReals(x, y)
	if e != api.OK {
		return "", e
	}
	return write(a.plus(b.timesI()))
}

// Re returns the real part of a.
func Re(a api.Num) (api.Num, api.Errno) { return ofOne(a, value.re) }

// Im returns the imaginary part of a, which is real.
func Im(a api.Num) (api.Num, api.Errno) { return ofOne(a, value.im) }

// IsReal reports whether a is valid and real.
func IsReal(a api.Num) bool {
	x, e := read(a)
	return e == api.OK && x.isReal()
}

// Neg returns -a.
func Neg(a api.Num) (api.Num, api.Errno) { return ofOne(a, value.negated) }

// Conj returns the conjugate of a.
func Conj(a api.Num) (api.Num, api.Errno) { return ofOne(a, value.conjugate) }

// Norm returns the square of the magnitude of a.
func Norm(a api.Num) (api.Num, api.Errno) { return ofOne(a, value.norm) }

// Add returns a + b.
func Add(a, b api.Num) (api.Num, api.Errno) { return ofTwo(a, b, value.plus) }

// Sub returns a - b.
func Sub(a, b api.Num) (api.Num, api.Errno) { return ofTwo(a, b, value.less) }

// Mul returns a times b.
func Mul(a, b api.Num) (api.Num, api.Errno) { return ofTwo(a, b, value.product) }

// Div returns a divided by b.
func Div(a, b api.Num) (api.Num, api.Errno) {
	x, y, e := readTwo(a, b)
	switch {
	case e != api.OK:
		return "", e
	case y.isZero():
		return "", api.ErrZero
	}
	return write(x.product(y.inverse()))
}

// Power returns a to the power n.
func Power(a api.Num, n int) (api.Num, api.Errno) {
	x, e := read(a)
	switch {
	case e != api.OK:
		return "", e
	case n < -api.MaxPower || n > api.MaxPower:
		return "", api.ErrRange
	case n < 0 && x.isZero():
		return "", api.ErrZero
	case n < 0:
		x, n = x.inverse(), -n
	}
	result, ok := x.power(n)
	if !ok {
		return "", api.ErrBig
	}
	return write(result)
}

// Unit returns 1 + t i, divided by 1 - t i.
func Unit(t api.Num) (api.Num, api.Errno) {
	x, e := readOneReal(t)
	if e != api.OK {
		return "", e
	}
	top := valueOf(1).plus(x.timesI())
	return write(top.product(top.conjugate().inverse()))
}

// Sum returns the sum of the numbers of l.
func Sum(l []api.Num) (api.Num, api.Errno) {
	list, e := readAll(l, api.MaxList, api.ErrLimit, read)
	if e != api.OK {
		return "", e
	}
	return write(sum(list))
}

// Dot returns the sum of the products of numbers with the same index.
func Dot(a, b []api.Num) (api.Num, api.Errno) {
	if len(a) != len(b) {
		return "", api.ErrShape
	}
	first, e := readAll(a, api.MaxList, api.ErrLimit, read)
	if e != api.OK {
		return "", e
	}
	second, e := readAll(b, api.MaxList, api.ErrLimit, read)
	if e != api.OK {
		return "", e
	}
	return write(dot(first, second))
}

// Cmp returns -1, 0 or 1 if a is less than, equal to, or greater than b.
func Cmp(a, b api.Num) (int, api.Errno) {
	x, y, e := readReals(a, b)
	if e != api.OK {
		return 0, e
	}
	return x.compare(y), api.OK
}

// Floor returns the greatest whole number that is not greater than a.
func Floor(a api.Num) (api.Num, api.Errno) {
	x, e := readOneReal(a)
	if e != api.OK {
		return "", e
	}
	return write(fraction(x.top.x.floor(x.under), natOf(1)))
}

// Int returns a as an int.
func Int(a api.Num) (int, api.Errno) {
	x, e := readOneReal(a)
	if e != api.OK {
		return 0, e
	}
	size := x.top.x.size
	if !x.under.isOne() || size.compare(natOf(mostInt)) > 0 {
		return 0, api.ErrRange
	}
	return x.top.x.sign() * int(size.lowWord()), api.OK
}

// Root encloses the square root of a between multiples of 1/2^bits.
func Root(a api.Num, bits int) (low, high api.Num, e api.Errno) {
	x, e := readOneReal(a)
	if e != api.OK {
		return "", "", e
	}
	if x.top.x.minus || bits < 0 || bits > api.MaxBits {
		return "", "", api.ErrRange
	}
	// The square is a times 2^(2 bits), rounded down; so is its root.
	square, rest := x.top.x.size.up(2 * bits).divide(x.under)
	floor := square.root()
	ceiling := floor
	if len(rest) > 0 || floor.times(floor).compare(square) < 0 {
		ceiling = floor.plus(natOf(1))
	}
	unit := natOf(1).up(bits)
	low, e = write(fraction(whole{size: floor}, unit))
	if e != api.OK {
		return "", "", e
	}
	high, e = write(fraction(whole{size: ceiling}, unit))
	if e != api.OK {
		return "", "", e
	}
	return low, high, api.OK
}

func ofOne(a api.Num, f func(value) value) (api.Num, api.Errno) {
	x, e := read(a)
	if e != api.OK {
		return "", e
	}
	return write(f(x))
}

func ofTwo(a, b api.Num, f func(value, value) value) (api.Num, api.Errno) {
	x, y, e := readTwo(a, b)
	if e != api.OK {
		return "", e
	}
	return write(f(x, y))
}

func readTwo(a, b api.Num) (x, y value, e api.Errno) {
	if x, e = read(a); e != api.OK {
		return value{}, value{}, e
	}
	if y, e = read(b); e != api.OK {
		return value{}, value{}, e
	}
	return x, y, api.OK
}

func readReals(a, b api.Num) (x, y value, e api.Errno) {
	x, y, e = readTwo(a, b)
	if e == api.OK && !(x.isReal() && y.isReal()) {
		return value{}, value{}, api.ErrReal
	}
	return x, y, e
}

func readOneReal(a api.Num) (value, api.Errno) {
	x, _, e := readReals(a, "0")
	return x, e
}

// readAll reads a list, element by element: tooMany if there are more than most, otherwise the error of the first element with one.
func readAll[T, V any](list []T, most int, tooMany api.Errno, one func(T) (V, api.Errno)) ([]V, api.Errno) {
	if len(list) > most {
		return nil, tooMany
	}
	values := make([]V, len(list))
	for i, element := range list {
		v, e := one(element)
		if e != api.OK {
			return nil, e
		}
		values[i] = v
	}
	return values, api.OK
}
