package search

import (
	"slices"

	"ringdown/api"
)

// Limits that have no name in api.
const (
	mostTemplate = 255     // the greatest template of a trigger
	mostGain     = 64      // the greatest magnitude of a gain of an injection
	mostLength   = 64      // samples of an injection
	mostHeight   = 256     // the greatest magnitude of a sample of an injection
	mostKey      = 1 << 30 // the greatest key of an envelope
	mostWindow   = 1 << 30 // the greatest window within which an injection is found
)

func isFrom(low, n, high int) bool { return low <= n && n <= high }

// areFrom says that all numbers of a list are from -most to most.
func areFrom(list []int, most int) bool {
	isWrong := func(n int) bool { return !isFrom(-most, n, most) }
	return !slices.ContainsFunc(list, isWrong)
}

// checkTriggers returns ErrTriggers unless each list is one of triggers.
func checkTriggers(lists ...[]api.Trigger) api.Errno {
	for _, l := range lists {
		if !areTriggers(l) {
			return api.ErrTriggers
		}
	}
	return api.OK
}

func areTriggers(l []api.Trigger) bool {
	if len(l) > api.MaxTriggers {
		return false
	}
	last := -1
	for _, a := range l {
		if !isFrom(last+1, a.Time, api.MaxClock-1) || !isFrom(0, a.Loud, api.MaxStat) || !isFrom(0, a.Template, mostTemplate) {
			return false
		}
		last = a.Time
	}
	return true
}

func isRecord(x []int) bool { return len(x) <= api.MaxSamples && areFrom(x, api.MaxPulse) }

// arePeriods says that a record of so many samples can be folded at each of the periods.
func arePeriods(samples int, periods ...int) bool {
	for _, p := range periods {
		if !isFrom(1, p, samples) {
			return false
		}
	}
	return true
}

// areWaves says that these are injections for a record of so many samples.
func areWaves(waves []api.Wave, samples int) bool {
	if len(waves) > api.MaxWaves {
		return false
	}
	last := -1
	for _, w := range waves {
		if !isWave(w) || !isFrom(last+1, w.At, samples-len(w.Samples)) {
			return false
		}
		last = w.At
	}
	return true
}

func isWave(w api.Wave) bool {
	return isFrom(-mostGain, w.Gain, mostGain) && isFrom(1, len(w.Samples), mostLength) && areFrom(w.Samples, mostHeight)
}
