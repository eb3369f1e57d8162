package glitch

import (
	"slices"

	"ringdown/api"
	"ringdown/num"
)

func isFrom(low, n, high int) bool { return low <= n && n <= high }

// areFrom says that all numbers of a list are from -most to most.
func areFrom(list []int, most int) bool {
	for _, n := range list {
		if !isFrom(-most, n, most) {
			return false
		}
	}
	return true
}

// isLength says that n is a power of 2, and not too great: it has no bit in common with the number before it.
func isLength(n int) bool { return isFrom(1, n, api.MaxSamples) && n&(n-1) == 0 }

func isSignal(x []int) bool { return isLength(len(x)) && areFrom(x, api.MaxSignal) }

// areWitnesses says that these are witnesses for a signal of so many samples.
func areWitnesses(witnesses [][]int, samples int) bool {
	isWrong := func(w []int) bool { return len(w) != samples || !areFrom(w, api.MaxSignal) }
	return isFrom(1, len(witnesses), api.MaxWitness) && !slices.ContainsFunc(witnesses, isWrong)
}

func areVetoes(l []api.Veto) bool {
	if len(l) > api.MaxVetoes {
		return false
	}
	seen := map[string]bool{}
	for _, v := range l {
		if !num.IsName(v.Name) || seen[v.Name] || !areSegments(v.Segments) {
			return false
		}
		seen[v.Name] = true
	}
	return true
}

func areSegments(l []api.Segment) bool {
	isWrong := func(s api.Segment) bool { return !(0 <= s.From && s.From < s.To && s.To <= api.MaxTime) }
	return len(l) <= api.MaxSegments && !slices.ContainsFunc(l, isWrong)
}

func isSpan(n int) bool { return isFrom(1, n, api.MaxTime) }

func areTimes(times []int) bool {
	if len(times) > api.MaxTimes {
		return false
	}
	last := -1
	for _, t := range times {
		if !isFrom(last+1, t, api.MaxTime) {
			return false
		}
		last = t
	}
	return true
}
