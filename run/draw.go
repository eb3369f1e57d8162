package run

import (
	"cmp"
	"iter"
	"slices"

	"ringdown/api"
	"ringdown/bank"
)

// draws yields the first n draws of a seed.
func draws(seed, n int) iter.Seq[int] {
	return func(yield func(int) bool) {
		x := seed + 1
		for range n {
			x = x * api.DrawStep % api.DrawRing
			if !yield(x) {
				return
			}
		}
	}
}

func noise(seed, n, m int) []int {
	var list []int
	for x := range draws(seed, n) {
		list = append(list, x%(2*m+1)-m)
	}
	return list
}

// perWave is how many numbers are drawn for a wave of a challenge.
const perWave = 4

// mostGain is the greatest gain of a wave of a challenge.
const mostGain = 16

func challenge(seed, samples, length, many int) []api.Wave {
	var kept []api.Wave
	for four := range slices.Chunk(slices.Collect(draws(seed, perWave*many)), perWave) {
		w := drawnWave([perWave]int(four), samples, length)
		isSame := func(other api.Wave) bool { return other.At == w.At }
		if !isSilent(w) && !slices.ContainsFunc(kept, isSame) {
			kept = append(kept, w)
		}
	}
	slices.SortFunc(kept, func(v, w api.Wave) int { return cmp.Compare(v.At, w.At) })
	return kept
}

// drawnWave returns the wave that four draws give.
func drawnWave(four [perWave]int, samples, length int) api.Wave {
	c := api.Chirp{P: four[0] % api.Phases, Q: four[1] % api.Phases}
	// There is no error, as the length was checked.
	wave, _ := bank.Wave(length, c)
	return api.Wave{At: four[2] % (samples - length + 1), Gain: four[3]%mostGain + 1, Samples: wave}
}

func isSilent(w api.Wave) bool {
	isHeard := func(n int) bool { return n != 0 }
	return !slices.ContainsFunc(w.Samples, isHeard)
}
