package run

import (
	"slices"

	"ringdown/api"
	"ringdown/bank"
	"ringdown/num"
	"ringdown/search"
)

// Limits that have no name in api.
const (
	detectors   = 2
	mostVersion = 1 << 30
	leastWindow = 2 // so that there are not too many triggers
	mostMisfit  = 1 << 40
)

func isFrom(low, n, high int) bool { return low <= n && n <= high }

// areSamples says that these are the samples of a plan.
func areSamples(data [detectors][]int) bool {
	many := len(data[0])
	return isFrom(1, many, api.MaxHeld) && len(data[1]) == many && areValues(data[0]) && areValues(data[1])
}

func areValues(list []int) bool {
	isWrong := func(n int) bool { return !isFrom(-api.MaxValue, n, api.MaxValue) }
	return !slices.ContainsFunc(list, isWrong)
}

// areDuties says that these are duties for so many samples.
func areDuties(l []api.Duty, samples int) bool {
	if len(l) > api.MaxDuties {
		return false
	}
	// What comes before the first one ends at 0, and has no name.
	var last api.Duty
	for _, d := range l {
		if !num.IsName(d.Who) || d.Who == last.Who || d.From != last.To || !isFrom(d.From+1, d.To, d.From+api.MaxTour) {
			return false
		}
		last = d
	}
	return last.To == samples
}

// isWork says that this is planned work within some duties.
func isWork(l []api.Segment, duties []api.Duty) bool {
	if len(l) > api.MaxWorks {
		return false
	}
	end := 0
	for _, s := range l {
		isAround := func(d api.Duty) bool { return d.From <= s.From && s.To <= d.To }
		if s.From < end || s.From >= s.To || !slices.ContainsFunc(duties, isAround) {
			return false
		}
		end = s.To
	}
	return true
}

// isRecipe says that r is valid for so many samples.
func isRecipe(r api.Recipe, samples int) bool {
	return isFrom(1, r.Version, mostVersion) && hasBank(r, samples) && hasBounds(r) && hasParts(r) && hasClock(r, samples)
}

func hasBank(r api.Recipe, samples int) bool {
	return len(r.Bank) > 0 && r.Length <= samples && bank.CheckBank(r.Length, r.Bank) == api.OK
}

func hasBounds(r api.Recipe) bool {
	return isFrom(1, r.Variance, api.MaxVariance) && isFrom(0, r.Floor, api.MaxFloor) && isFrom(leastWindow, r.Window, api.MaxWindow)
}

func hasParts(r api.Recipe) bool {
	return isFrom(1, r.Parts, api.MaxParts) && r.Length%r.Parts == 0 && isFrom(0, r.Misfit, mostMisfit)
}

// hasClock asks search, which looks at the clock and the limit even if there are no triggers.
func hasClock(r api.Recipe, samples int) bool {
	_, e := search.Candidates(nil, nil, samples, r.Near, r.Step, r.Limit)
	return e == api.OK
}

func isDetector(n int) bool { return isFrom(0, n, detectors-1) }

func isSeed(n int) bool { return isFrom(0, n, api.MaxSeed) }
