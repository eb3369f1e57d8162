package record

import (
	"iter"
	"slices"
)

const (
	mostOrder     = 3
	mostParameter = 30
	orderSize     = 2  // bits of an order
	parameterSize = 5  // bits of a parameter
	mostOnes      = 20 // a quotient of so many is not written: the whole value follows
	wholeSize     = 32 // bits of a whole value
)

// coding is how samples become bits, and how many these are.
type coding struct{ order, parameter, bits int }

// best returns the coding of samples with the fewest bits, of several that with the least order, then with the least parameter.
func best(samples []int) coding {
	least := coding{}
	for c := range codings(samples) {
		if least == (coding{}) || c.bits < least.bits {
			least = c
		}
	}
	return least
}

// codings gives all codings of samples, by order, then by parameter.
func codings(samples []int) iter.Seq[coding] {
	return func(yield func(coding) bool) {
		for order := range mostOrder + 1 {
			values := foldedAll(residues(samples, order))
			for parameter := range mostParameter + 1 {
				if !yield(coding{order, parameter, bitsOf(values, parameter)}) {
					return
				}
			}
		}
	}
}

// bitsOf returns how many bits a channel has with these folded values.
func bitsOf(values []int, parameter int) int {
	bits := orderSize + parameterSize
	for _, u := range values {
		if q := u >> parameter; q < mostOnes {
			bits += q + 1 + parameter
		} else {
			bits += mostOnes + wholeSize
		}
	}
	return bits
}

func residues(samples []int, order int) []int {
	list := slices.Clone(samples)
	for range order {
		for i := len(list) - 1; i > 0; i-- {
			list[i] -= list[i-1]
		}
	}
	return list
}

// unwound returns the samples that have these residues.
func unwound(residues []int, order int) []int {
	list := slices.Clone(residues)
	for range order {
		for i := 1; i < len(list); i++ {
			list[i] += list[i-1]
		}
	}
	return list
}

func folded(r int) int {
	if r < 0 {
		return -2*r - 1
	}
	return 2 * r
}

func foldedAll(residues []int) []int {
	values := make([]int, len(residues))
	for i, r := range residues {
		values[i] = folded(r)
	}
	return values
}

// unfolded returns the residue that has a folded value.
func unfolded(u int) int {
	if u%2 == 1 {
		return -(u + 1) / 2
	}
	return u / 2
}

// carryValue carries a folded value.
func carryValue(s stream, u, parameter int) int {
	q := 0
	for q < mostOnes && s.carry(oneIf(u>>parameter > q), 1) == 1 {
		q++
	}
	if q == mostOnes {
		return s.carry(u, wholeSize)
	}
	return q<<parameter | s.carry(u, parameter)
}

func oneIf(is bool) int {
	if is {
		return 1
	}
	return 0
}

// write writes the bits of a channel.
func write(w *writer, samples []int) {
	c := best(samples)
	w.carry(c.order, orderSize)
	w.carry(c.parameter, parameterSize)
	for _, u := range foldedAll(residues(samples, c.order)) {
		carryValue(w, u, c.parameter)
	}
}

// read reads the bits of a channel with so many samples, and says whether these samples have just these bits. (A value that is written whole where it need not be has more bits than with the same order and parameter in the best coding.)
func read(r *reader, many int) ([]int, bool) {
	from := r.at
	c := coding{order: r.carry(0, orderSize), parameter: r.carry(0, parameterSize)}
	list := make([]int, many)
	for i := range list {
		list[i] = unfolded(carryValue(r, 0, c.parameter))
	}
	samples := unwound(list, c.order)
	c.bits = r.at - from
	return samples, c == best(samples)
}
