package search

import (
	"slices"

	"ringdown/api"
)

// lift makes what is added to a code greater than 0: no number of an injection is as far below.
const lift = 65536

// added returns a record with waves, each of them so many times.
func added(x []int, waves []api.Wave, times int) []int {
	sum := slices.Clone(x)
	for _, w := range waves {
		for i, n := range w.Samples {
			sum[w.At+i] += times * w.Gain * n
		}
	}
	return sum
}

// code is that of an envelope, as far as it is calculated.
type code int

func (c *code) add(n int) { *c = (*c*api.SealStep + code(n) + lift) % api.SealRing }

// envelope returns that of injections with a key.
func envelope(waves []api.Wave, key int) api.Envelope {
	c := code(key + 1)
	eachNumber(waves, c.add)
	return api.Envelope{Many: len(waves), Code: int(c)}
}

// eachNumber does something with each of the numbers of injections, in order.
func eachNumber(waves []api.Wave, do func(int)) {
	for _, w := range waves {
		do(w.At)
		do(w.Gain)
		do(len(w.Samples))
		for _, n := range w.Samples {
			do(n)
		}
	}
}
