package search

import "ringdown/api"

// Bursts returns all bursts at a threshold.
func Bursts(x []int, window, threshold int) ([]api.Burst, api.Errno) {
	switch {
	case !isRecord(x):
		return nil, api.ErrPulses
	case !isFrom(1, window, api.MaxSamples) || !isFrom(1, threshold, api.MaxLoud):
		return nil, api.ErrRange
	}
	return bursts(x, window, threshold), api.OK
}

// Fold returns the fold of a record at a period.
func Fold(x []int, period int) ([]int, api.Errno) {
	if e := checkPeriods(x, period); e != api.OK {
		return nil, e
	}
	sums, _ := fold(x, period)
	return sums, api.OK
}

// Compare compares the strengths of a record at two periods.
func Compare(x []int, p, q int) (int, api.Errno) {
	if e := checkPeriods(x, p, q); e != api.OK {
		return 0, e
	}
	return strengthOf(x, p).compare(strengthOf(x, q)), api.OK
}

// Period returns the period with the greatest strength.
func Period(x []int, from, to int) (int, api.Errno) {
	switch e := checkPeriods(x, from, to); {
	case e != api.OK:
		return 0, e
	case from > to:
		return 0, api.ErrRange
	}
	return strongest(x, from, to), api.OK
}

// checkPeriods returns the first error of a record and of periods at which it is folded.
func checkPeriods(x []int, periods ...int) api.Errno {
	switch {
	case !isRecord(x):
		return api.ErrPulses
	case !arePeriods(len(x), periods...):
		return api.ErrRange
	}
	return api.OK
}

// Inject returns a record with injections.
func Inject(x []int, waves []api.Wave) ([]int, api.Errno) {
	if e := checkWaves(x, waves); e != api.OK {
		return nil, e
	}
	return inRange(added(x, waves, 1))
}

// Seal returns the envelope of injections with a key.
func Seal(x []int, waves []api.Wave, key int) (api.Envelope, api.Errno) {
	if e := checkSeal(x, waves, key); e != api.OK {
		return api.Envelope{}, e
	}
	return envelope(waves, key), api.OK
}

// Open returns the record before the injections of an envelope.
func Open(e api.Envelope, x []int, waves []api.Wave, key int) (before []int, err api.Errno) {
	switch wrong := checkSeal(x, waves, key); {
	case wrong != api.OK:
		return nil, wrong
	case e != envelope(waves, key):
		return nil, api.ErrEnvelope
	}
	return inRange(added(x, waves, -1))
}

// checkWaves returns the first error of a record and injections.
func checkWaves(x []int, waves []api.Wave) api.Errno {
	switch {
	case !isRecord(x):
		return api.ErrPulses
	case !areWaves(waves, len(x)):
		return api.ErrWaves
	}
	return api.OK
}

// checkSeal returns the first error of a record, injections and a key.
func checkSeal(x []int, waves []api.Wave, key int) api.Errno {
	if e := checkWaves(x, waves); e != api.OK {
		return e
	}
	if !isFrom(0, key, mostKey) {
		return api.ErrRange
	}
	return api.OK
}

// inRange returns ErrRange unless sums are a record.
func inRange(sums []int) ([]int, api.Errno) {
	if !isRecord(sums) {
		return nil, api.ErrRange
	}
	return sums, api.OK
}
