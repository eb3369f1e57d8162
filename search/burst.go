package search

import (
	"iter"

	"ringdown/api"
)

// ring is the squares of the samples in a window of a size, and their sum.
type ring struct {
	squares           [api.MaxSamples]int
	size, next, power int
}

// put takes a sample into the window, in the place of the one that has been there longest.
func (r *ring) put(n int) {
	r.power += n*n - r.squares[r.next]
	r.squares[r.next] = n * n
	r.next = (r.next + 1) % r.size
}

// windows yields where each window of a size begins, and its power, in order.
func windows(x []int, size int) iter.Seq2[int, int] {
	return func(yield func(from, power int) bool) {
		r := ring{size: size}
		for i, n := range x {
			r.put(n)
			if from := i + 1 - size; from >= 0 && !yield(from, r.power) {
				return
			}
		}
	}
}

// bursts returns those of a record, by increasing From.
func bursts(x []int, window, threshold int) []api.Burst {
	var list []api.Burst
	for from, power := range windows(x, window) {
		if power < threshold {
			continue
		}
		if last := len(list) - 1; last >= 0 && from <= list[last].To {
			list[last].To = from + window
			list[last].Peak = max(list[last].Peak, power)
		} else {
			list = append(list, api.Burst{From: from, To: from + window, Peak: power})
		}
	}
	return list
}
