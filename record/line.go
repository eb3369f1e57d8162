package record

import (
	"slices"

	"ringdown/api"
	"ringdown/num"
	"ringdown/short"
)

// mostAmplitude is the greatest magnitude of an amplitude that is injected.
const mostAmplitude = 1000

// CheckLine returns ErrLine unless shape is a line.
func CheckLine(shape []int) api.Errno {
	if !isFrom(2, len(shape), api.MaxPeriod) || !areFrom(shape, api.MaxShape) {
		return api.ErrLine
	}
	sum := 0
	for _, s := range shape {
		sum += s
	}
	if sum != 0 || product(shape, shape, len(shape)) == 0 {
		return api.ErrLine
	}
	return api.OK
}

// product returns the sum of the products of elements of two lists, each of which is repeated, so many in all.
func product(a, b []int, many int) int {
	sum := 0
	for t := range many {
		sum += a[t%len(a)] * b[t%len(b)]
	}
	return sum
}

// checkBoth returns the first error of a line and a series.
func checkBoth(shape, x []int) api.Errno {
	if e := CheckLine(shape); e != api.OK {
		return e
	}
	return CheckSeries(x)
}

// Inject returns the series into which a line is injected.
func Inject(shape []int, amplitude int, x []int) ([]int, api.Errno) {
	switch e := checkBoth(shape, x); {
	case e != api.OK:
		return nil, e
	case !isFrom(-mostAmplitude, amplitude, mostAmplitude):
		return nil, api.ErrRange
	}
	y := make([]int, len(x))
	for t, sample := range x {
		y[t] = sample + amplitude*shape[t%len(shape)]
	}
	if !areFrom(y, api.MaxRaw) {
		return nil, api.ErrRange
	}
	return y, api.OK
}

// Track returns the amplitude of a line in a series.
func Track(shape []int, x []int) (api.Num, api.Errno) {
	switch e := checkBoth(shape, x); {
	case e != api.OK:
		return "", e
	case len(x) < len(shape):
		return "", api.ErrNone
	}
	whole := len(x) / len(shape) * len(shape)
	return num.Of(product(x, shape, whole), product(shape, shape, whole))
}

// Kept reports whether the amplitude of a line in a series, divided by that which was injected, is from low to high.
func Kept(shape []int, injected api.Num, x []int, low, high api.Num) (bool, api.Errno) {
	if e := checkBoth(shape, x); e != api.OK {
		return false, e
	}
	switch e := checkNumbers(injected, low, high); {
	case e != api.OK:
		return false, e
	case injected == "0":
		return false, api.ErrZero
	}
	amplitude, e := Track(shape, x)
	if e != api.OK {
		return false, e
	}
	kept, e := num.Div(amplitude, injected)
	if e != api.OK {
		return false, e
	}
	return areIncreasing(low, kept, high), api.OK
}

// checkNumbers returns the first error of the numbers that Kept takes.
func checkNumbers(l ...api.Num) api.Errno {
	isWrong := func(a api.Num) bool { return num.Check(a) != api.OK }
	isUnreal := func(a api.Num) bool { return !num.IsReal(a) }
	isLong := func(a api.Num) bool { return !short.HasFewPlaces(a) }
	switch {
	case slices.ContainsFunc(l, isWrong):
		return api.ErrNum
	case slices.ContainsFunc(l, isUnreal):
		return api.ErrReal
	case slices.ContainsFunc(l, isLong):
		return api.ErrRange
	}
	return api.OK
}

// areIncreasing says that no real number of a list is less than the one before it.
func areIncreasing(l ...api.Num) bool {
	for i := 1; i < len(l); i++ {
		if order, e := num.Cmp(l[i-1], l[i]); e != api.OK || order > 0 {
			return false
		}
	}
	return true
}

// Apart reports whether two lines are apart.
func Apart(a, b []int) (bool, api.Errno) {
	if e := CheckLine(a); e != api.OK {
		return false, e
	}
	if e := CheckLine(b); e != api.OK {
		return false, e
	}
	return product(a, b, leastCommonMultiple(len(a), len(b))) == 0, api.OK
}

func leastCommonMultiple(a, b int) int {
	multiple := a
	for multiple%b != 0 {
		multiple += a
	}
	return multiple
}
