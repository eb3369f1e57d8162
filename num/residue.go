package num

import (
	"iter"
	"math/bits"
)

// primeBits is what each prime of fields has at least to offer: it is greater than 2 to this power.
const primeBits = 61

// field is the whole numbers modulo a prime, with a square root of -1.
type field struct{ prime, i uint64 }

// fields gives fields with different primes, which are less than 2^62 so that sums fit a word. (There are more of them between 2^61 and 2^62 than any matrix needs.)
func fields() iter.Seq[field] {
	return func(yield func(field) bool) {
		// Only primes that are 1 modulo 4 have a square root of -1.
		for n := uint64(1)<<(primeBits+1) - 3; n > 1<<primeBits; n -= 4 {
			if isPrime(n) && !yield(field{n, rootOfMinusOne(n)}) {
				return
			}
		}
	}
}

// isPrime is for odd numbers from 41 on (Miller and Rabin; these bases are enough below 2^64).
func isPrime(n uint64) bool {
	f := field{prime: n}
	odd := n - 1
	twos := bits.TrailingZeros64(odd)
	odd >>= twos
next:
	for _, base := range [12]uint64{2, 3, 5, 7, 11, 13, 17, 19, 23, 29, 31, 37} {
		a := f.power(base, odd)
		if a == 1 || a == n-1 {
			continue
		}
		for range twos - 1 {
			if a = f.times(a, a); a == n-1 {
				continue next
			}
		}
		return false
	}
	return true
}

// rootOfMinusOne looks for a base that is no square: half of all are none.
func rootOfMinusOne(prime uint64) uint64 {
	f := field{prime: prime}
	for base := uint64(2); ; base++ {
		root := f.power(base, (prime-1)/4)
		if f.times(root, root) == prime-1 {
			return root
		}
	}
}

func (f field) plus(a, b uint64) uint64 {
	if sum := a + b; sum < f.prime {
		return sum
	}
	return a + b - f.prime
}

func (f field) less(a, b uint64) uint64 {
	if a >= b {
		return a - b
	}
	return a + f.prime - b
}

func (f field) times(a, b uint64) uint64 {
	high, low := bits.Mul64(a, b)
	_, rest := bits.Div64(high, low, f.prime)
	return rest
}

func (f field) power(a, n uint64) uint64 {
	result := uint64(1)
	for i := bits.Len64(n) - 1; i >= 0; i-- {
		result = f.times(result, result)
		if n>>i&1 == 1 {
			result = f.times(result, a)
		}
	}
	return result
}

func (f field) inverse(a uint64) uint64 { return f.power(a, f.prime-2) }

func (f field) ofWhole(a whole) uint64 {
	rest := a.size.modulo(f.prime)
	if a.minus {
		return f.less(0, rest)
	}
	return rest
}

// ofRow returns a row modulo the prime, with one and with the other square root of -1.
func (f field) ofRow(row []gauss) (with, withOther []uint64) {
	with, withOther = make([]uint64, len(row)), make([]uint64, len(row))
	for j, a := range row {
		x, y := f.ofWhole(a.x), f.times(f.i, f.ofWhole(a.y))
		with[j], withOther[j] = f.plus(x, y), f.less(x, y)
	}
	return with, withOther
}

func (f field) ofRows(rows [][]gauss) (with, withOther [][]uint64) {
	with, withOther = make([][]uint64, len(rows)), make([][]uint64, len(rows))
	for i, row := range rows {
		with[i], withOther[i] = f.ofRow(row)
	}
	return with, withOther
}

// solve returns the determinant of rows, without their last column, and it times the x for which they times x are the last column; nothing but 0 if the determinant is 0. It uses up the rows.
func (f field) solve(rows [][]uint64) (determinant uint64, tops []uint64) {
	determinant = 1
	for k := range rows {
		first := firstWith(rows, k)
		if first < 0 {
			return 0, nil
		}
		if first != k {
			rows[k], rows[first] = rows[first], rows[k]
			determinant = f.less(0, determinant)
		}
		pivot := rows[k]
		determinant = f.times(determinant, pivot[k])
		inverse := f.inverse(pivot[k])
		for j := k; j < len(pivot); j++ {
			pivot[j] = f.times(pivot[j], inverse)
		}
		reduce := func(row []uint64) {
			factor := row[k]
			for j := k; factor != 0 && j < len(row); j++ {
				row[j] = f.less(row[j], f.times(factor, pivot[j]))
			}
		}
		for i, row := range rows {
			if i != k {
				reduce(row)
			}
		}
	}
	tops = make([]uint64, len(rows))
	for i, row := range rows {
		tops[i] = f.times(determinant, row[len(row)-1])
	}
	return determinant, tops
}

// firstWith returns the index of the first row from k on whose element k is not 0, or -1.
func firstWith(rows [][]uint64, k int) int {
	for i := k; i < len(rows); i++ {
		if rows[i][k] != 0 {
			return i
		}
	}
	return -1
}

// cramer returns the determinant of rows, without their last column, and it times the x for which they times x are the last column; nothing but 0 if the determinant is 0. It is calculated modulo so many primes that only one number that is not too great fits.
func cramer(rows [][]gauss) (determinant gauss, tops []gauss) {
	most := determinantBits(rows) + 1
	found := remainders{modulus: natOf(1), parts: make([]nat, 2*len(rows)+2)}
	zeros := 0
	for f := range fields() {
		with, withOther := f.ofRows(rows)
		d, t := f.solve(with)
		dOther, tOther := f.solve(withOther)
		switch {
		case d == 0 && dOther == 0:
			zeros++
		case d != 0 && dOther != 0:
			found.add(f, append(t, d), append(tOther, dOther))
		}
		if zeros*primeBits > most {
			return gauss{}, nil
		}
		if found.modulus.bitLen() > most+1 {
			break
		}
	}
	tops = make([]gauss, len(rows)+1)
	for i := range tops {
		tops[i] = gauss{found.whole(2 * i), found.whole(2*i + 1)}
	}
	return tops[len(rows)], tops[:len(rows)]
}

// determinantBits returns how many bits a determinant of as many columns of rows has at most: it is at most the product of the lengths of the rows (Hadamard).
func determinantBits(rows [][]gauss) int {
	many := 0
	for _, row := range rows {
		var square nat
		for _, a := range row {
			square = square.plus(a.norm())
		}
		many += square.bitLen()
	}
	return (many + 1) / 2
}

// remainders are numbers x + y i, of which it is known what both parts are modulo a number: the parts of the first one, of the second one, and so on.
type remainders struct {
	modulus nat
	parts   []nat
}

// add takes in the numbers modulo a prime, with one and with the other square root of -1.
func (r *remainders) add(f field, with, withOther []uint64) {
	half := f.prime/2 + 1
	halfOfI := f.times(half, f.i)
	inverse := f.inverse(r.modulus.modulo(f.prime))
	for n := range with {
		x := f.times(half, f.plus(with[n], withOther[n]))
		y := f.times(halfOfI, f.less(withOther[n], with[n]))
		for k, part := range [2]uint64{x, y} {
			old := r.parts[2*n+k]
			more := f.times(inverse, f.less(part, old.modulo(f.prime)))
			r.parts[2*n+k] = old.plus(r.modulus.times(natOf(more)))
		}
	}
	r.modulus = r.modulus.times(natOf(f.prime))
}

// whole returns the part k as the number that is closest to 0.
func (r *remainders) whole(k int) whole {
	part := r.parts[k]
	if rest := r.modulus.less(part); rest.compare(part) < 0 {
		return whole{true, rest}
	}
	return whole{size: part}
}

// areApart says that two polynomials that are not 0 certainly have no common divisor of a degree from 1 on: they would have one modulo a prime as well, unless that takes the highest coefficient away.
func areApart(p, q poly) bool {
	for f := range fields() {
		a, _ := f.ofRow(p)
		b, _ := f.ofRow(q)
		return a[len(a)-1] != 0 && f.commonDegree(a, b) == 0
	}
	return false
}

// commonDegree returns the degree of the greatest common divisor of two polynomials, of which the first one is not 0. It uses them up.
func (f field) commonDegree(p, q []uint64) int {
	for {
		for len(q) > 0 && q[len(q)-1] == 0 {
			q = q[:len(q)-1]
		}
		if len(q) == 0 {
			return len(p) - 1
		}
		inverse := f.inverse(q[len(q)-1])
		for len(p) >= len(q) {
			last, offset := len(p)-1, len(p)-len(q)
			factor := f.times(inverse, p[last])
			for k, c := range q {
				p[offset+k] = f.less(p[offset+k], f.times(factor, c))
			}
			p = p[:last]
		}
		p, q = q, p
	}
}
