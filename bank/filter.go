package bank

import (
	"slices"

	"ringdown/api"
)

// Filter returns the outputs of a chirp at all times.
func Filter(length int, c api.Chirp, data []int) ([]int, api.Errno) {
	switch e := CheckChirp(length, c); {
	case e != api.OK:
		return nil, e
	case !areData(data):
		return nil, api.ErrData
	}
	var list []int
	for _, out := range outputs(waveOf(length, c), data) {
		list = append(list, out)
	}
	return list, api.OK
}

// Hits returns all hits of a bank.
func Hits(length int, l []api.Chirp, data []int, variance, floor int) ([]api.Hit, api.Errno) {
	if e := checkHits(length, l, data, variance, floor); e != api.OK {
		return nil, e
	}
	list := hits(wavesOf(length, l), data, floor*variance)
	slices.SortFunc(list, byTime)
	return list, api.OK
}

// Loudest returns the hits in windows of a bank.
func Loudest(length int, l []api.Chirp, data []int, variance, floor, window int) ([]api.Hit, api.Errno) {
	switch e := checkHits(length, l, data, variance, floor); {
	case e != api.OK:
		return nil, e
	case !isFrom(1, window, api.MaxWindow):
		return nil, api.ErrRange
	}
	waves := wavesOf(length, l)
	list := inWindows(waves, hits(waves, data, floor*variance), window)
	slices.SortFunc(list, byTime)
	return list, api.OK
}

// Misfit returns how badly the pieces of a chirp fit the data at a time.
func Misfit(length int, c api.Chirp, data []int, t, parts int) (api.Num, api.Errno) {
	w, e := heardWave(length, c)
	switch {
	case e != api.OK:
		return "", e
	case !areData(data):
		return "", api.ErrData
	case !isTime(length, data, t):
		return "", api.ErrRange
	case !isFrom(1, parts, api.MaxParts) || length%parts != 0:
		return "", api.ErrArg
	}
	return misfit(w, data[t:t+length], parts)
}

// Sure returns the least amplitude with which a chirp is a hit whatever the noise is.
func Sure(length int, c api.Chirp, noise, variance, floor int) (int, api.Errno) {
	w, e := heardWave(length, c)
	switch {
	case e != api.OK:
		return 0, e
	case !isFrom(0, noise, api.MaxNoise) || !areBounds(variance, floor):
		return 0, api.ErrRange
	}
	amplitude := sure(w, noise, floor*variance)
	if amplitude > api.MaxAmp {
		return 0, api.ErrNone
	}
	return amplitude, api.OK
}

// checkHits returns the first error of a bank, data, a variance and a floor.
func checkHits(length int, l []api.Chirp, data []int, variance, floor int) api.Errno {
	switch e := CheckBank(length, l); {
	case e != api.OK:
		return e
	case !areData(data):
		return api.ErrData
	case !areBounds(variance, floor):
		return api.ErrRange
	}
	return api.OK
}

// heardWave returns the wave of a chirp that is not silent.
func heardWave(length int, c api.Chirp) (*wave, api.Errno) {
	if e := CheckChirp(length, c); e != api.OK {
		return nil, e
	}
	w := waveOf(length, c)
	if w.isSilent() {
		return nil, api.ErrNone
	}
	return w, api.OK
}
