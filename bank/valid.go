package bank

import (
	"slices"
	"strconv"
	"strings"

	"ringdown/api"
	"ringdown/num"
)

// mostDigits is how many decimal digits the numerator and the denominator of a least match have at most.
const mostDigits = 6

func isFrom(low, n, high int) bool { return low <= n && n <= high }

func isLength(n int) bool { return isFrom(api.MinLength, n, api.MaxLength) }

func isPhase(n int) bool { return isFrom(0, n, api.Phases-1) }

func isChirp(c api.Chirp) bool { return isPhase(c.P) && isPhase(c.Q) }

func isShift(length, n int) bool { return isFrom(-(length - 1), n, length-1) }

func isFamily(f api.Family) bool {
	if !isLength(f.Length) || !arePhases(f.FromP, f.ToP) || !arePhases(f.FromQ, f.ToQ) {
		return false
	}
	return (f.ToP-f.FromP+1)*(f.ToQ-f.FromQ+1) <= api.MaxPoints
}

func arePhases(from, to int) bool { return isPhase(from) && isPhase(to) && from <= to }

func isBank(length int, l []api.Chirp) bool {
	if len(l) > api.MaxBank {
		return false
	}
	for i, c := range l {
		if !isChirp(c) || waveOf(length, c).isSilent() || slices.Contains(l[:i], c) {
			return false
		}
	}
	return true
}

// readLeast returns a least match, if a is one.
func readLeast(a api.Num) (least quotient, ok bool) {
	top, under, isFraction := strings.Cut(string(a), "/")
	if !isFraction {
		under = "1"
	}
	if len(top) > mostDigits || len(under) > mostDigits || !num.IsReal(a) {
		return quotient{}, false
	}
	// There are no errors, as both are few digits, at most with a sign.
	n, _ := strconv.Atoi(top)
	d, _ := strconv.Atoi(under)
	if !isFrom(0, n, d) {
		return quotient{}, false
	}
	return quotient{n, d}, true
}

func areData(data []int) bool {
	isWrong := func(n int) bool { return !isFrom(-api.MaxDatum, n, api.MaxDatum) }
	return len(data) <= api.MaxData && !slices.ContainsFunc(data, isWrong)
}

// areBounds says that a variance and a floor are in their ranges.
func areBounds(variance, floor int) bool {
	return isFrom(1, variance, api.MaxVariance) && isFrom(0, floor, api.MaxFloor)
}
