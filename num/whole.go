package num

// whole is a whole number: its magnitude, and whether it is less than 0.
type whole struct {
	minus bool
	size  nat
}

func wholeOf(n int) whole {
	size := uint64(n)
	if n < 0 {
		size = -size
	}
	return whole{n < 0, natOf(size)}
}

func (a whole) isZero() bool { return len(a.size) == 0 }

func (a whole) sign() int {
	switch {
	case a.isZero():
		return 0
	case a.minus:
		return -1
	}
	return 1
}

func (a whole) negated() whole { return whole{!a.minus && !a.isZero(), a.size} }

func (a whole) plus(b whole) whole {
	if a.minus == b.minus {
		return whole{a.minus, a.size.plus(b.size)}
	}
	switch a.size.compare(b.size) {
	case 0:
		return whole{}
	case 1:
		return whole{a.minus, a.size.less(b.size)}
	}
	return whole{b.minus, b.size.less(a.size)}
}

func (a whole) less(b whole) whole { return a.plus(b.negated()) }

func (a whole) times(b whole) whole {
	size := a.size.times(b.size)
	return whole{a.minus != b.minus && len(size) > 0, size}
}

func (a whole) timesNat(n nat) whole { return a.times(whole{size: n}) }

// over returns a divided by n, which divides it.
func (a whole) over(n nat) whole { return whole{a.minus, a.size.over(n)} }

// floor returns a divided by n, rounded down.
func (a whole) floor(n nat) whole {
	quotient, rest := a.size.divide(n)
	if a.minus && len(rest) > 0 {
		quotient = quotient.plus(natOf(1))
	}
	return whole{a.minus, quotient}
}

// gauss is the number x + y i with whole x and y.
type gauss struct{ x, y whole }

func (a gauss) isZero() bool { return a.x.isZero() && a.y.isZero() }

func (a gauss) isReal() bool { return a.y.isZero() }

func (a gauss) negated() gauss { return gauss{a.x.negated(), a.y.negated()} }

func (a gauss) conjugate() gauss { return gauss{a.x, a.y.negated()} }

func (a gauss) plus(b gauss) gauss { return gauss{a.x.plus(b.x), a.y.plus(b.y)} }

func (a gauss) less(b gauss) gauss { return gauss{a.x.less(b.x), a.y.less(b.y)} }

func (a gauss) times(b gauss) gauss {
	return gauss{
		a.x.times(b.x).less(a.y.times(b.y)),
		a.x.times(b.y).plus(a.y.times(b.x)),
	}
}

func (a gauss) timesNat(n nat) gauss { return gauss{a.x.timesNat(n), a.y.timesNat(n)} }

// over returns a divided by n, which divides both of its parts.
func (a gauss) over(n nat) gauss {
	if n.isOne() {
		return a
	}
	return gauss{a.x.over(n), a.y.over(n)}
}

func (a gauss) norm() nat {
	return a.x.size.times(a.x.size).plus(a.y.size.times(a.y.size))
}

// common returns the greatest divisor of n that divides both parts of a.
func (a gauss) common(n nat) nat {
	for _, part := range [2]nat{a.x.size, a.y.size} {
		if n.isOne() {
			break
		}
		n = n.gcd(part)
	}
	return n
}
