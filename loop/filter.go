package loop

import (
	"slices"

	"ringdown/api"
	"ringdown/num"
	"ringdown/short"
)

// mostElements is how many elements In and Out may have.
const mostElements = api.MaxOrder + 1

// filter is a filter that begins with 1 in Out; its elements need not be coefficients, and may be too many.
type filter api.Filter

func isCoefficient(a api.Num) bool { return short.IsReal(a) }

func areCoefficients(list []api.Num) bool {
	return !slices.ContainsFunc(list, func(a api.Num) bool { return !isCoefficient(a) })
}

func isSide(list []api.Num) bool {
	return len(list) > 0 && len(list) <= mostElements && areCoefficients(list)
}

// checkBoth returns ErrFilter unless f and g are valid.
func checkBoth(f, g api.Filter) api.Errno {
	if e := Check(f); e != api.OK {
		return e
	}
	return Check(g)
}

// finished returns f as a result: an error if it has too many elements, or some that are no coefficients.
func finished(f filter) (api.Filter, api.Errno) {
	switch {
	case len(f.In) > mostElements || len(f.Out) > mostElements:
		return api.Filter{}, api.ErrLimit
	case !areCoefficients(f.In) || !areCoefficients(f.Out):
		return api.Filter{}, api.ErrRange
	}
	return api.Filter(f), api.OK
}

func (f filter) series(g filter) filter {
	return filter{In: polyMul(f.In, g.In), Out: polyMul(f.Out, g.Out)}
}

func (f filter) parallel(g filter) filter {
	return filter{
		In:  polyAdd(polyMul(f.In, g.Out), polyMul(g.In, f.Out)),
		Out: polyMul(f.Out, g.Out),
	}
}

func (f filter) scaled(k api.Num) filter {
	return filter{In: scaled(f.In, k), Out: slices.Clone(f.Out)}
}

func (f filter) delayed(n int) filter {
	return filter{In: slices.Concat(zeros(n), f.In), Out: slices.Clone(f.Out)}
}

// around returns the sum of In and Out, from which the loop that is closed with f takes what goes out.
func (f filter) around() []api.Num { return polyAdd(f.In, f.Out) }

// hasLoop says that there is a loop that is closed with f.
func (f filter) hasLoop() bool { return f.In[0] != "-1" }

// closed and left are for filters that have a loop.
func (f filter) closed() filter {
	sum := f.around()
	return filter{In: divided(f.In, sum[0]), Out: divided(sum, sum[0])}
}

func (f filter) left() filter {
	sum := f.around()
	return filter{In: divided(f.Out, sum[0]), Out: divided(sum, sum[0])}
}

// output returns what goes out for what comes in.
func (f filter) output(x []api.Num) []api.Num {
	var y []api.Num
	for t := range x {
		y = append(y, sub(newest(f.In, x[:t+1]), newest(f.Out[1:], y)))
	}
	return y
}

// newest returns the sum of the products of factors and numbers, the last one of which belongs to the first factor.
func newest(factors, numbers []api.Num) api.Num {
	many := min(len(factors), len(numbers))
	recent := slices.Clone(numbers[len(numbers)-many:])
	slices.Reverse(recent)
	return dot(factors[:many], recent)
}

// transfer returns the transfer at z, or ErrPole.
func (f filter) transfer(z api.Num) (api.Num, api.Errno) {
	if z == "0" {
		return "", api.ErrPole
	}
	back := div("1", z)
	under := sure(num.At(f.Out, back))
	if under == "0" {
		return "", api.ErrPole
	}
	return div(sure(num.At(f.In, back)), under), api.OK
}
