package bank

import (
	"iter"

	"ringdown/api"
)

// points yields those of a family, in their order.
func points(f api.Family) iter.Seq[api.Chirp] {
	return func(yield func(api.Chirp) bool) {
		for p := f.FromP; p <= f.ToP; p++ {
			for q := f.FromQ; q <= f.ToQ; q++ {
				c := api.Chirp{P: p, Q: q}
				if !waveOf(f.Length, c).isSilent() && !yield(c) {
					return
				}
			}
		}
	}
}

// pointWaves returns the waves of the points of a family, in their order.
func pointWaves(f api.Family) []*wave {
	var waves []*wave
	for c := range points(f) {
		waves = append(waves, waveOf(f.Length, c))
	}
	return waves
}

// cover is what a bank has to reach for the points of a family.
type cover struct {
	points, bank []*wave
	least        quotient
}

// coverOf returns the cover of a family by a bank, or the first error of all three.
func coverOf(f api.Family, l []api.Chirp, a api.Num) (cover, api.Errno) {
	if e := checkCover(f, l); e != api.OK {
		return cover{}, e
	}
	least, ok := readLeast(a)
	if !ok {
		return cover{}, api.ErrLeast
	}
	return cover{pointWaves(f), wavesOf(f.Length, l), least}, api.OK
}

// checkCover returns the first error of a family and a bank.
func checkCover(f api.Family, l []api.Chirp) api.Errno {
	switch {
	case !isFamily(f):
		return api.ErrFamily
	case !isBank(f.Length, l):
		return api.ErrBank
	}
	return api.OK
}

// fit returns the first chirp of the bank that reaches a point, and the least shift with which it does.
func (c cover) fit(point *wave) (fit api.Fit, ok bool) {
	for i, b := range c.bank {
		if s, ok := reachFrom(point, b, c.least); ok {
			return api.Fit{Chirp: i, Shift: s}, true
		}
	}
	return api.Fit{}, false
}

// prove returns the fits of the points that are reached, and the indices of those that are missed.
func (c cover) prove() (fits []api.Fit, missed []int) {
	for i, p := range c.points {
		if fit, ok := c.fit(p); ok {
			fits = append(fits, fit)
		} else {
			missed = append(missed, i)
		}
	}
	return fits, missed
}

// holds says that a list of fits is a proof.
func (c cover) holds(proof []api.Fit) bool {
	if len(proof) != len(c.points) {
		return false
	}
	for i, p := range c.points {
		if !c.isFit(p, proof[i]) {
			return false
		}
	}
	return true
}

func (c cover) isFit(point *wave, fit api.Fit) bool {
	if !isFrom(0, fit.Chirp, len(c.bank)-1) || !isShift(point.length, fit.Shift) {
		return false
	}
	return reachesWith(point, c.bank[fit.Chirp], fit.Shift, c.least)
}

// worst returns the least number, over all points, of the greatest match with a wave of a bank; ok is false if there are no points.
func worst(points, bank []*wave) (least quotient, ok bool) {
	each := func(yield func(quotient) bool) {
		for _, p := range points {
			if !yield(greatestMatch(p, bank)) {
				return
			}
		}
	}
	return best(each, func(a, b quotient) int { return b.compare(a) })
}

func greatestMatch(point *wave, bank []*wave) quotient {
	matches := func(yield func(quotient) bool) {
		for _, b := range bank {
			if !yield(match(point, b)) {
				return
			}
		}
	}
	if greatest, ok := best(matches, quotient.compare); ok {
		return greatest
	}
	return quotient{0, 1}
}
