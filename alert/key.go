package alert

import "ringdown/api"

// isPrime says that n is a prime number that a key may be made of.
func isPrime(n int) bool {
	if !isFrom(leastPrime, n, api.MaxPrime) {
		return false
	}
	for d := 2; d*d <= n; d++ {
		if n%d == 0 {
			return false
		}
	}
	return true
}

// leastMultiple returns the least common multiple.
func leastMultiple(a, b int) int {
	divisor, rest := a, b
	for rest != 0 {
		divisor, rest = rest, divisor%rest
	}
	return a / divisor * b
}

// secretOf returns the least number that, times the exponent, is 1 more than a multiple of a ring; or 0 if there is none, as both have a common divisor.
func secretOf(exponent, ring int) int {
	// The least one is less than ring, so it is enough to try fewer multiples than the exponent says.
	for k := range exponent {
		if product := k*ring + 1; product%exponent == 0 {
			return product / exponent
		}
	}
	return 0
}

// key is a public key.
type key api.Key

func (k key) isPlausible() bool {
	return isFrom(leastModulus, k.Modulus, mostModulus) && isFrom(leastExponent, k.Exponent, mostExponent)
}

// power returns the rest that a power leaves, divided by the modulus.
func (k key) power(base, exponent int) int {
	times := func(a, b int) int { return a * b % k.Modulus }
	product := 1
	for base %= k.Modulus; exponent > 0; exponent /= 2 {
		if exponent%2 == 1 {
			product = times(product, base)
		}
		base = times(base, base)
	}
	return product
}

// isSigned says that a number is a signature by k of what has a digest.
func (k key) isSigned(digest, number int) bool {
	return isFrom(0, number, k.Modulus-1) && k.power(number, k.Exponent) == digest%k.Modulus
}
