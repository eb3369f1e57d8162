package num

import "math/bits"

// value is the number top / under, where under is at least 1. It is in lowest terms if no number from 2 on divides under and both parts of top; without it being said otherwise, it is.
type value struct {
	top   gauss
	under nat
}

func valueOf(n int) value { return fraction(wholeOf(n), natOf(1)) }

// fraction returns x / under, where both are in lowest terms.
func fraction(x whole, under nat) value { return value{gauss{x: x}, under} }

func (a value) isZero() bool { return a.top.isZero() }

func (a value) isReal() bool { return a.top.isReal() }

func (a value) lowest() value {
	common := a.top.common(a.under)
	return value{a.top.over(common), a.under.over(common)}
}

func (a value) re() value { return value{gauss{x: a.top.x}, a.under}.lowest() }

func (a value) im() value { return value{gauss{x: a.top.y}, a.under}.lowest() }

func (a value) negated() value { return value{a.top.negated(), a.under} }

func (a value) timesI() value { return value{gauss{a.top.y.negated(), a.top.x}, a.under} }

func (a value) conjugate() value { return value{a.top.conjugate(), a.under} }

func (a value) norm() value {
	return fraction(whole{size: a.top.norm()}, a.under.times(a.under)).lowest()
}

// plus needs no lowest terms of a. If both are in lowest terms, the sum is too: what divides its top and its denominator divides the common divisor of both denominators (Knuth), so that no long numbers need be looked at.
func (a value) plus(b value) value {
	common := a.under.gcd(b.under)
	more := b.under.over(common)
	top := a.top.timesNat(more).plus(b.top.timesNat(a.under.over(common)))
	left := top.common(common)
	return value{top.over(left), a.under.over(left).times(more)}
}

func (a value) less(b value) value { return a.plus(b.negated()) }

func (a value) times(b value) value { return a.product(b).lowest() }

// product is not in lowest terms.
func (a value) product(b value) value {
	return value{a.top.times(b.top), a.under.times(b.under)}
}

// inverse returns 1 / a, where a is not 0.
func (a value) inverse() value {
	return value{a.top.conjugate().timesNat(a.under), a.top.norm()}.lowest()
}

// power returns a to the power n, which is at least 0, or false if that is too big.
func (a value) power(n int) (value, bool) {
	square := valueOf(1)
	for i := bits.Len(uint(n)) - 1; i >= 0; i-- {
		square = square.times(square)
		if n>>i&1 == 1 {
			square = square.times(a)
		}
		// The denominators of powers divide those of higher ones, and what is so much greater than 1 gets greater: the result is too big as well.
		if square.isHopeless() {
			return value{}, false
		}
	}
	return square, true
}

func (a value) compare(b value) int {
	return a.top.x.timesNat(b.under).less(b.top.x.timesNat(a.under)).sign()
}

// sum adds values, halves first, so that long denominators meet as seldom as possible; it is 0 for none.
func sum(list []value) value {
	half := len(list) / 2
	switch len(list) {
	case 0:
		return valueOf(0)
	case 1:
		return list[0]
	}
	return sum(list[:half]).plus(sum(list[half:]))
}

// dot returns the sum of the products of values with the same index, where b is at least as long as a.
func dot(a, b []value) value {
	products := make([]value, len(a))
	for i, factor := range a {
		products[i] = factor.times(b[i])
	}
	return sum(products)
}
