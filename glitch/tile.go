package glitch

import (
	"iter"
	"slices"

	"ringdown/api"
)

// mostCoefficient is the greatest magnitude of a coefficient: that of the sum of all samples.
const mostCoefficient = api.MaxSamples * api.MaxSignal

// transform returns the coefficients of a signal.
func transform(x []int) []int {
	c := slices.Clone(x)
	// The first numbers are the sums of a level; those of the next level replace them, with its differences behind.
	halve := func(many int) {
		sums := slices.Clone(c[:2*many])
		for i := range many {
			c[i], c[many+i] = sums[2*i]+sums[2*i+1], sums[2*i]-sums[2*i+1]
		}
	}
	for many := len(x) / 2; many > 0; many /= 2 {
		halve(many)
	}
	return c
}

// inverse returns the signal with these coefficients.
func inverse(c []int) (x []int, ok bool) {
	if !isLength(len(c)) || !areFrom(c, mostCoefficient) {
		return nil, false
	}
	x = slices.Clone(c)
	isWhole := true
	double := func(many int) {
		sums := slices.Clone(x[:many])
		for i := range many {
			a, b := sums[i]+c[many+i], sums[i]-c[many+i]
			isWhole = isWhole && a%2 == 0
			x[2*i], x[2*i+1] = a/2, b/2
		}
	}
	for many := 1; many < len(c); many *= 2 {
		double(many)
	}
	return x, isWhole && areFrom(x, api.MaxSignal)
}

// tiles yields all tiles of a signal, in their order.
func tiles(x []int) iter.Seq[api.Tile] {
	return func(yield func(api.Tile) bool) {
		c := transform(x)
		level := 0
		for many := len(c) / 2; many > 0; many /= 2 {
			level++
			for at, d := range c[many : 2*many] {
				if !yield(api.Tile{Level: level, At: at, D: d}) {
					return
				}
			}
		}
	}
}

// loud returns the tiles of a signal whose energy is at least the threshold.
func loud(x []int, threshold int) []api.Tile {
	var list []api.Tile
	for t := range tiles(x) {
		if energy(t, len(x)) >= threshold {
			list = append(list, t)
		}
	}
	return list
}

// energy returns that of a tile of a signal of so many samples.
func energy(t api.Tile, samples int) int { return t.D * t.D * (samples >> t.Level) }

// covered returns the first sample that a tile covers, and the one after the last.
func covered(t api.Tile) (from, to int) { return t.At << t.Level, (t.At + 1) << t.Level }

// areTilesOf says that these are tiles of a signal, strictly increasing in their order.
func areTilesOf(x []int, list []api.Tile) bool {
	for t := range tiles(x) {
		if len(list) > 0 && list[0] == t {
			list = list[1:]
		}
	}
	return len(list) == 0
}

// part returns the part of some tiles of a signal of so many samples.
func part(list []api.Tile, samples int) []int {
	p := make([]int, samples)
	for _, t := range list {
		from, to := covered(t)
		height := t.D * (samples >> t.Level)
		for i := range to - from {
			if i < (to-from)/2 {
				p[from+i] += height
			} else {
				p[from+i] -= height
			}
		}
	}
	return p
}
