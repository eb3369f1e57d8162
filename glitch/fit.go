package glitch

import (
	"ringdown/api"
	"ringdown/num"
	"ringdown/short"
)

// Fit returns the best fit of witnesses for y, and its rest.
func Fit(y []int, witnesses [][]int) (fit []api.Num, rest api.Num, e api.Errno) {
	if e := checkFitted(y, witnesses); e != api.OK {
		return nil, "", e
	}
	fit, e = bestFit(y, witnesses)
	if e != api.OK {
		return nil, "", e
	}
	rest, e = restOf(y, witnesses, fit)
	if e != api.OK {
		return nil, "", e
	}
	return fit, rest, api.OK
}

// Rest returns the rest of a fit.
func Rest(y []int, witnesses [][]int, fit []api.Num) (api.Num, api.Errno) {
	if e := checkFit(y, witnesses, fit); e != api.OK {
		return "", e
	}
	return restOf(y, witnesses, fit)
}

// Clean returns what a fit leaves of y.
func Clean(y []int, witnesses [][]int, fit []api.Num) ([]api.Num, api.Errno) {
	if e := checkFit(y, witnesses, fit); e != api.OK {
		return nil, e
	}
	return cleaned(y, witnesses, fit)
}

// checkFitted returns the first error of a signal that is fitted, and of its witnesses.
func checkFitted(y []int, witnesses [][]int) api.Errno {
	switch {
	case !isFrom(1, len(y), api.MaxFit) || !areFrom(y, api.MaxSignal):
		return api.ErrSignal
	case !areWitnesses(witnesses, len(y)):
		return api.ErrWitness
	}
	return api.OK
}

// checkFit returns the first error of a signal, its witnesses, and a fit.
func checkFit(y []int, witnesses [][]int, fit []api.Num) api.Errno {
	switch e := checkFitted(y, witnesses); {
	case e != api.OK:
		return e
	case len(fit) != len(witnesses):
		return api.ErrArg
	}
	for _, a := range fit {
		switch {
		case num.Check(a) != api.OK:
			return api.ErrNum
		case !num.IsReal(a):
			return api.ErrReal
		}
	}
	for _, a := range fit {
		if !short.HasFewPlaces(a) {
			return api.ErrRange
		}
	}
	return api.OK
}

// bestFit solves the equations that say that what is left has the sum of products 0 with each witness.
func bestFit(y []int, witnesses [][]int) ([]api.Num, api.Errno) {
	var rows [][]api.Num
	var sums []api.Num
	for _, v := range witnesses {
		var row []api.Num
		for _, w := range witnesses {
			row = append(row, whole(product(v, w)))
		}
		rows = append(rows, row)
		sums = append(sums, whole(product(v, y)))
	}
	return num.Solve(rows, sums)
}

// product returns the sum of the products of elements of two lists.
func product(a, b []int) int {
	sum := 0
	for t := range a {
		sum += a[t] * b[t]
	}
	return sum
}

func whole(n int) api.Num {
	// There is no error with a denominator of 1.
	a, _ := num.Of(n, 1)
	return a
}

func restOf(y []int, witnesses [][]int, fit []api.Num) (api.Num, api.Errno) {
	left, e := cleaned(y, witnesses, fit)
	if e != api.OK {
		return "", e
	}
	return num.Dot(left, left)
}

func cleaned(y []int, witnesses [][]int, fit []api.Num) ([]api.Num, api.Errno) {
	factors := append([]api.Num{"1"}, fit...)
	left := make([]api.Num, len(y))
	for t, sample := range y {
		row := []api.Num{whole(sample)}
		for _, w := range witnesses {
			row = append(row, whole(-w[t]))
		}
		a, e := num.Dot(factors, row)
		if e != api.OK {
			return nil, e
		}
		left[t] = a
	}
	return left, api.OK
}
