package bank

import (
	"cmp"
	"iter"

	"ringdown/api"
)

// quarter is the table from 0 to a quarter of a turn, and that included; all else follows from it.
var quarter = [17]int{0, 12, 25, 37, 49, 60, 71, 81, 90, 98, 106, 112, 117, 122, 125, 126, 127}

// table returns S(phase).
func table(phase int) int {
	half := api.Phases / 2
	switch {
	case phase >= half:
		return -table(phase - half)
	case phase > half/2:
		return quarter[half-phase]
	}
	return quarter[phase]
}

// wave is that of a chirp, and its norm.
type wave struct {
	h      [api.MaxLength]int // 0 from the length on
	length int
	norm   int
}

func waveOf(length int, c api.Chirp) *wave {
	w := &wave{length: length}
	for t := range length {
		w.h[t] = table((c.P*t + c.Q*t*t) % api.Phases)
	}
	w.norm = product(w.samples(), w.samples())
	return w
}

func wavesOf(length int, l []api.Chirp) []*wave {
	var waves []*wave
	for _, c := range l {
		waves = append(waves, waveOf(length, c))
	}
	return waves
}

func (w *wave) samples() []int { return w.h[:w.length] }

func (w *wave) isSilent() bool { return w.h == [api.MaxLength]int{} }

func (w *wave) reach() int {
	sum := 0
	for _, n := range w.h {
		sum += max(n, -n)
	}
	return sum
}

// product returns the sum of the products of elements with the same index, as long as both lists have one.
func product(a, b []int) int {
	n := min(len(a), len(b))
	a, b = a[:n], b[:n]
	sum := 0
	for i, x := range a {
		sum += x * b[i]
	}
	return sum
}

// shifts yields all shifts of a length, increasing.
func shifts(length int) iter.Seq[int] {
	return func(yield func(int) bool) {
		for s := -(length - 1); s < length; s++ {
			if !yield(s) {
				return
			}
		}
	}
}

// overlap returns that of two waves of the same length.
func overlap(a, b *wave, shift int) int {
	if shift < 0 {
		return product(a.samples()[-shift:], b.samples())
	}
	return product(a.samples(), b.samples()[shift:])
}

// match returns that of two waves that are not silent.
func match(a, b *wave) quotient {
	overlaps := func(yield func(int) bool) {
		for s := range shifts(a.length) {
			if !yield(overlap(a, b, s)) {
				return
			}
		}
	}
	greatest, _ := best(overlaps, cmp.Compare[int])
	greatest = max(greatest, 0)
	return quotient{greatest * greatest, a.norm * b.norm}
}

// reachesWith says that b reaches the least match for a with a shift.
func reachesWith(a, b *wave, shift int, least quotient) bool {
	n := overlap(a, b, shift)
	return n > 0 && quotient{n * n, a.norm * b.norm}.isAtLeast(least)
}

// reachFrom returns the least shift with which b reaches the least match for a.
func reachFrom(a, b *wave, least quotient) (shift int, ok bool) {
	for s := range shifts(a.length) {
		if reachesWith(a, b, s, least) {
			return s, true
		}
	}
	return 0, false
}
