package loop

import (
	"iter"
	"slices"
	"sort"

	"ringdown/api"
	"ringdown/num"
)

// isStep says that k is an element that a proof may have; it need not be a number.
func isStep(k api.Num) bool { return isLess("-1", k) && isLess(k, "1") }

// descent gives the polynomials from which a polynomial that begins with 1 is built, the longest one (itself) first, and the numbers with which they are built. It ends before the first one that no element of a proof builds, if there is one, and otherwise before the polynomial 1.
func descent(out []api.Num) iter.Seq2[api.Num, []api.Num] {
	return func(yield func(api.Num, []api.Num) bool) {
		for p := out; len(p) > 1; p = before(p) {
			k := p[len(p)-1]
			if !isStep(k) || !yield(k, p) {
				return
			}
		}
	}
}

// before returns the polynomial from which p is built in one step.
func before(p []api.Num) []api.Num {
	last := len(p) - 1
	rest := leftOf(p[last])
	list := make([]api.Num, last)
	for i := range list {
		list[i] = div(sub(p[i], mul(p[last], p[last-i])), rest)
	}
	return list
}

// leftOf returns 1 less the square of k.
func leftOf(k api.Num) api.Num { return sub("1", mul(k, k)) }

// proofOf returns the proof that a filter with this Out is stable, if it is. (Schur and Cohn: it is if and only if it can be built.)
func proofOf(out []api.Num) (proof []api.Num, isStable bool) {
	for k := range descent(out) {
		proof = append(proof, k)
	}
	slices.Reverse(proof)
	return proof, len(proof) == len(out)-1
}

func isStable(out []api.Num) bool {
	_, is := proofOf(out)
	return is
}

// isProof says that a list of any numbers proves that a filter with this Out is stable.
func isProof(list, out []api.Num) (is bool) {
	isNone := func(k api.Num) bool { return !isStep(k) }
	if len(list) != len(out)-1 || slices.ContainsFunc(list, isNone) {
		return false
	}
	// What is built with too long numbers is not Out: the one proof that there may be has none.
	defer func() {
		if recover() != nil {
			is = false
		}
	}()
	return slices.Equal(built(list), out)
}

// built returns the polynomial that a proof builds.
func built(proof []api.Num) []api.Num {
	p := []api.Num{"1"}
	for _, k := range proof {
		p = append(p, "0")
		reversed := slices.Clone(p)
		slices.Reverse(reversed)
		p = polyAdd(p, scaled(reversed, k))
	}
	return p
}

// isWithin says that a filter with this Out is within a radius. Its zeros, divided by the radius, are those of another filter.
func isWithin(out []api.Num, radius api.Num) bool {
	list := slices.Clone(out)
	factor := api.Num("1")
	for k := range list {
		list[k] = div(list[k], factor)
		factor = mul(factor, radius)
	}
	return isStable(list)
}

// radiusOf returns the least radius, in parts, that a stable filter with this Out is within.
func radiusOf(out []api.Num) int {
	return 1 + sort.Search(api.MaxRadius-1, func(n int) bool {
		return isWithin(out, sure(num.Of(n+1, api.MaxRadius)))
	})
}

// energy is for stable filters (Åström): on the way down Out is made shorter as for a proof, and In is made as short by taking a multiple of Out, in reverse, out of it.
func (f filter) energy() api.Num {
	length := max(len(f.In), len(f.Out))
	in := padded(f.In, length)
	total, share := api.Num("0"), api.Num("1")
	takeLast := func() api.Num {
		last := in[len(in)-1]
		total = add(total, div(mul(last, last), share))
		in = in[:len(in)-1]
		return last
	}
	for k, p := range descent(padded(f.Out, length)) {
		last := takeLast()
		for i := range in {
			in[i] = sub(in[i], mul(last, p[len(in)-i]))
		}
		share = mul(share, leftOf(k))
	}
	takeLast()
	return total
}
