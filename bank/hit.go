package bank

import (
	"cmp"
	"iter"
	"slices"
	"sort"

	"ringdown/api"
	"ringdown/num"
)

// outputs yields times and outputs of a wave, in order.
func outputs(w *wave, data []int) iter.Seq2[int, int] {
	return func(yield func(t, out int) bool) {
		for t := 0; isTime(w.length, data, t); t++ {
			if !yield(t, output(w, data, t)) {
				return
			}
		}
	}
}

func isTime(length int, data []int, t int) bool { return isFrom(0, t, len(data)-length) }

func output(w *wave, data []int, t int) int { return product(w.samples(), data[t:]) }

// hits returns all hits of waves, by chirp, and those of the same chirp by time; bound is the floor times the variance.
func hits(waves []*wave, data []int, bound int) []api.Hit {
	var list []api.Hit
	for i, w := range waves {
		for t, out := range outputs(w, data) {
			if isLoud(out, bound*w.norm) {
				list = append(list, api.Hit{Time: t, Chirp: i, Out: out})
			}
		}
	}
	return list
}

// isLoud says that an output is greater than 0, and its square at least a number.
func isLoud(out, square int) bool {
	// Divided by the output, so that its square may have two words.
	return out > 0 && quotient{out, 1}.isAtLeast(quotient{square, out})
}

// byTime compares hits by their times, and those with the same time by their chirps.
func byTime(a, b api.Hit) int {
	return cmp.Or(cmp.Compare(a.Time, b.Time), cmp.Compare(a.Chirp, b.Chirp))
}

// loudness compares hits of some waves.
type loudness []*wave

// compare has the louder hit first.
func (l loudness) compare(a, b api.Hit) int {
	return cmp.Or(l.of(b).compare(l.of(a)), byTime(a, b))
}

func (l loudness) of(h api.Hit) quotient { return quotient{h.Out * h.Out, l[h.Chirp].norm} }

// inWindows returns the hits in windows, the louder ones first.
func inWindows(waves []*wave, list []api.Hit, window int) []api.Hit {
	sorted := slices.Clone(list)
	slices.SortFunc(sorted, loudness(waves).compare)
	var chosen []api.Hit
	for _, h := range sorted {
		isNear := func(other api.Hit) bool { return max(h.Time-other.Time, other.Time-h.Time) < window }
		if !slices.ContainsFunc(chosen, isNear) {
			chosen = append(chosen, h)
		}
	}
	return chosen
}

// misfit returns that of a wave that is not silent, for the data under it.
func misfit(w *wave, data []int, parts int) (api.Num, api.Errno) {
	out := output(w, data, 0)
	terms := []api.Num{share(-out*out, w.norm)}
	size := w.length / parts
	for piece := range slices.Chunk(w.samples(), size) {
		if norm := product(piece, piece); norm > 0 {
			out := product(piece, data)
			terms = append(terms, share(out*out, norm))
		}
		data = data[size:]
	}
	return num.Sum(terms)
}

func share(square, norm int) api.Num {
	// There is no error, as the norm is not 0.
	a, _ := num.Of(square, norm)
	return a
}

// sure returns the least amplitude that noise cannot hide, or a greater one than MaxAmp.
func sure(w *wave, noise, bound int) int {
	return 1 + sort.Search(api.MaxAmp, func(below int) bool {
		return isLoud((below+1)*w.norm-noise*w.reach(), bound*w.norm)
	})
}
