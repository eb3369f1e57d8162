package record

import "ringdown/api"

// CheckModel returns ErrModel unless m is valid.
func CheckModel(m api.Model) api.Errno {
	if !isFrom(1, len(m.Taps), api.MaxTaps) || !isFrom(0, m.Shift, api.MaxShift) {
		return api.ErrModel
	}
	for _, t := range m.Taps {
		if t.Low > t.High || t.Low < -api.MaxTap || t.High > api.MaxTap {
			return api.ErrModel
		}
	}
	return api.OK
}

// CheckSeries returns ErrSeries unless x is a series.
func CheckSeries(x []int) api.Errno {
	if len(x) > api.MaxSeries || !areFrom(x, api.MaxRaw) {
		return api.ErrSeries
	}
	return api.OK
}

// Strain returns the bands of all samples of a series, with a model.
func Strain(m api.Model, x []int) ([]api.Band, api.Errno) {
	if e := CheckModel(m); e != api.OK {
		return nil, e
	}
	if e := CheckSeries(x); e != api.OK {
		return nil, e
	}
	bands := make([]api.Band, len(x))
	for t := range x {
		bands[t] = bandOf(m, x[:t+1])
	}
	return bands, api.OK
}

// bandOf returns the band of the last sample of a series.
func bandOf(m api.Model, x []int) api.Band {
	low, high := 0, 0
	for i, t := range m.Taps[:min(len(m.Taps), len(x))] {
		sample := x[len(x)-1-i]
		a, b := t.Low*sample, t.High*sample
		low += min(a, b)
		high += max(a, b)
	}
	// A shift to the right rounds down, so the negated number is rounded up.
	return api.Band{Low: low >> m.Shift, High: -(-high >> m.Shift)}
}
