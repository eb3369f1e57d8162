package loop

import (
	"slices"

	"ringdown/api"
	"ringdown/num"
)

// tooLong is the panic with which a calculation is left where num has no result. That is so only for numbers that are no coefficients, nor follow from them.
type tooLong struct{}

func sure(a api.Num, e api.Errno) api.Num {
	if e != api.OK {
		panic(tooLong{})
	}
	return a
}

func add(a, b api.Num) api.Num { return sure(num.Add(a, b)) }

func sub(a, b api.Num) api.Num { return sure(num.Sub(a, b)) }

func mul(a, b api.Num) api.Num { return sure(num.Mul(a, b)) }

func div(a, b api.Num) api.Num { return sure(num.Div(a, b)) }

func neg(a api.Num) api.Num { return sure(num.Neg(a)) }

func dot(a, b []api.Num) api.Num { return sure(num.Dot(a, b)) }

// isLess says that a is less than b; nothing is that is not real.
func isLess(a, b api.Num) bool {
	order, _ := num.Cmp(a, b)
	return order < 0
}

// mapped returns what f makes of each number of a list.
func mapped(list []api.Num, f func(api.Num) api.Num) []api.Num {
	result := make([]api.Num, len(list))
	for i, a := range list {
		result[i] = f(a)
	}
	return result
}

func scaled(list []api.Num, k api.Num) []api.Num {
	return mapped(list, func(a api.Num) api.Num { return mul(a, k) })
}

func divided(list []api.Num, d api.Num) []api.Num {
	return mapped(list, func(a api.Num) api.Num { return div(a, d) })
}

// padded returns a list with zeros at its end, up to a length.
func padded(list []api.Num, length int) []api.Num {
	return slices.Concat(list, zeros(length-len(list)))
}

func zeros(n int) []api.Num { return slices.Repeat([]api.Num{"0"}, n) }

// sumOf returns the sum of two polynomials, with as many elements as the longer one.
func sumOf[T any](p, q []T, plus func(a, b T) T) []T {
	if len(p) < len(q) {
		p, q = q, p
	}
	sum := slices.Clone(p)
	for i, b := range q {
		sum[i] = plus(sum[i], b)
	}
	return sum
}

// productOf returns the product of two polynomials, with zeros at its end if they have some; it has no elements if one of them has none.
func productOf[T any](p, q []T, plus, times func(a, b T) T) []T {
	var product []T
	for i, a := range p {
		for j, b := range q {
			if c := times(a, b); i+j < len(product) {
				product[i+j] = plus(product[i+j], c)
			} else {
				product = append(product, c)
			}
		}
	}
	return product
}

// polyAdd and polyMul are for polynomials whose elements are numbers. (Those of num leave zeros at the end away, which are elements of filters.)
func polyAdd(p, q []api.Num) []api.Num { return sumOf(p, q, add) }

func polyMul(p, q []api.Num) []api.Num { return productOf(p, q, add, mul) }
