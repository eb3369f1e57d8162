package num

import "math/bits"

// gcd returns the greatest common divisor of a and b; that of a and 0 is a.
func (a nat) gcd(b nat) nat {
	if a.compare(b) < 0 {
		a, b = b, a
	}
	for len(b) > 1 {
		s := leadingSteps(a, b)
		if s.b0 == 0 {
			_, rest := a.divide(b)
			a, b = b, rest
		} else {
			a, b = s.apply(a, b)
		}
	}
	if len(b) == 0 {
		return a
	}
	x, y := b[0], a.modulo(b[0])
	for y != 0 {
		x, y = y, x%y
	}
	return natOf(x)
}

// steps are some steps of Euclid's at once: a becomes a0 a - b0 b, and b becomes b1 b - a1 a, or, after an odd number of steps, what has the opposite signs.
type steps struct {
	a0, a1, b0, b1 uint64
	odd            bool
}

// leadingSteps returns steps that the leading bits of a and b make certain, where a is at least b and b has at least two words; b0 is 0 if there are too few.
func leadingSteps(a, b nat) steps {
	n := len(a)
	shift := uint(bits.LeadingZeros64(a[n-1]))
	x := a[n-1]<<shift | a[n-2]>>(wordBits-shift)
	var y uint64
	switch len(b) {
	case n:
		y = b[n-1]<<shift | b[n-2]>>(wordBits-shift)
	case n - 1:
		y = b[n-2] >> (wordBits - shift)
	}
	s := steps{a1: 1, odd: true}
	a2, b2 := uint64(0), uint64(1)
	// As long as this holds, the words after the leading ones cannot change a quotient (Collins).
	for y >= b2 && x-y >= s.b1+b2 {
		q := x / y
		x, y = y, x-q*y
		s.a0, s.a1, a2 = s.a1, a2, s.a1+q*a2
		s.b0, s.b1, b2 = s.b1, b2, s.b1+q*b2
		s.odd = !s.odd
	}
	return s
}

func (s steps) apply(a, b nat) (nat, nat) {
	if s.odd {
		return difference(b, s.b0, a, s.a0), difference(a, s.a1, b, s.b1)
	}
	return difference(a, s.a0, b, s.b0), difference(b, s.b1, a, s.a1)
}

// difference returns a times x, less b times y, which is at least 0.
func difference(a nat, x uint64, b nat, y uint64) nat {
	rest := make(nat, max(len(a), len(b)))
	var more, less, borrow uint64
	for i := range rest {
		var u, v uint64
		if i < len(a) {
			u = a[i]
		}
		if i < len(b) {
			v = b[i]
		}
		u, more = timesPlus(u, x, more)
		v, less = timesPlus(v, y, less)
		rest[i], borrow = bits.Sub64(u, v, borrow)
	}
	return rest.trimmed()
}

func timesPlus(a, b, carry uint64) (low, high uint64) {
	high, low = bits.Mul64(a, b)
	low, c := bits.Add64(low, carry, 0)
	return low, high + c
}
