package bank

import (
	"fmt"
	"math/rand"
	"slices"
	"testing"

	"ringdown/api"
)

func validData() [][]int {
	most := 1 << 15
	return lists(nil, list(), list(0), list(most), list(-most), make([]int, 512), slices.Repeat(list(most, -most), 256))
}

func wrongData() [][]int {
	l := lists(make([]int, 513), make([]int, 1000), make([]int, 100000))
	for _, n := range list(1<<15+1, -1<<15-1, 1<<16, 1<<32, 1<<62, 1<<63-1, -1<<63) {
		l = append(l, list(n), list(n, 0, 0, 0, 0), list(0, 0, 0, 0, n), append(make([]int, 511), n))
	}
	return l
}

// P7.6: the example, and data that are too few.
func TestFilter(t *testing.T) {
	for _, c := range []struct {
		length     int
		c          api.Chirp
		data, want []int
	}{
		{4, chirp(16, 0), list(0, 127, 0, -127, 0), list(32258, 0)}, {4, chirp(16, 0), list(0, 127, 0, -127), list(32258)}, {4, chirp(16, 0), list(0, 127, 0), nil}, {4, chirp(16, 0), nil, nil}, {64, chirp(16, 0), make([]int, 63), nil}, {64, chirp(16, 0), make([]int, 64), list(0)}, {4, chirp(16, 0), list(5, 1, 7, 2, 3, 9), list(-127, 127*4, -127*7)},
		{4, chirp(8, 0), list(1, 1, 0, 0, 0, 1), list(90, 0, 90)}, {4, chirp(32, 0), list(1, 2, 3, 4, 5), list(0, 0)}, {4, chirp(0, 0), list(1, 2, 3), nil}, {4, chirp(16, 0), list(0, 1<<15, 0, -1<<15), list(254 << 15)}, {4, chirp(16, 0), list(0, -1<<15, 0, 1<<15), list(-254 << 15)},
	} {
		out, e := Filter(c.length, c.c, c.data)
		isList(t, fmt.Sprint(c.length, c.c, c.data), out, e, c.want, api.OK)
	}
	for _, data := range validData() {
		out, e := Filter(5, chirp(3, 2), data)
		isList(t, fmt.Sprint(len(data)), out, e, modelOutputs(5, chirp(3, 2), data), api.OK)
	}
	for _, data := range wrongData() {
		for _, c := range chirps(16, 0, 0, 0) {
			out, e := Filter(4, c, data)
			isList(t, fmt.Sprint(len(data)), out, e, nil, api.ErrData)
		}
	}
}

// P7.6: an output has to be greater than 0, and its square at least the floor times the variance times the norm.
func TestHits(t *testing.T) {
	// The norm of 16 0 is 2 times 127 times 127, as great as half of the square of the output of 0 1 0 -1.
	wave, opposite, most := list(0, 1, 0, -1), list(0, -1, 0, 1), list(0, 1<<15, 0, -1<<15)
	one, both, other := chirps(16, 0), chirps(16, 0, 8, 0), chirps(8, 0, 16, 0)
	for _, c := range []struct {
		l               []api.Chirp
		data            []int
		variance, floor int
		want            []api.Hit
	}{
		{one, wave, 1, 0, hitList(0, 0, 254)}, {one, wave, 1, 1, hitList(0, 0, 254)}, {one, wave, 1, 2, hitList(0, 0, 254)}, {one, wave, 2, 1, hitList(0, 0, 254)}, {one, wave, 1, 3, nil}, {one, wave, 3, 1, nil}, {one, wave, 2, 2, nil}, {one, wave, 1 << 20, 1 << 16, nil}, {one, wave, 1 << 20, 0, hitList(0, 0, 254)},
		{one, opposite, 1, 0, nil}, {one, opposite, 1, 1, nil}, {one, list(9, 0, 9, 0), 1, 0, nil}, {one, list(9, 5, 9, 5), 1, 0, nil}, {one, list(9, 5, 9, 4), 1, 0, hitList(0, 0, 127)},
		{one, list(0, 0, 1, 0, 0, 0, 1), 1, 0, hitList(1, 0, 127)}, {both, list(0, 1, 0, 0, 2), 1, 0, hitList(0, 0, 127, 0, 1, 90, 1, 1, 180)}, {other, list(0, 1, 0, 0, 2), 1, 0, hitList(0, 0, 90, 0, 1, 127, 1, 0, 180)}, {both, list(0, 1, 0, 0, 2), 1, 1, hitList(1, 1, 180)},
		{nil, wave, 1, 0, nil}, {both, nil, 1, 0, nil}, {both, list(0, 1, 0), 1, 0, nil}, {both, make([]int, 512), 1, 0, nil},
		{one, most, 1 << 20, 1 << 11, hitList(0, 0, 254<<15)}, {one, most, 1 << 20, 1<<11 + 1, nil}, {one, most, 1 << 15, 1 << 16, hitList(0, 0, 254<<15)}, {one, most, 1<<15 + 1, 1 << 16, nil}, {one, most, 1 << 20, 1 << 16, nil},
	} {
		h, e := Hits(4, c.l, c.data, c.variance, c.floor)
		isList(t, fmt.Sprint(c.l, c.data, c.variance, c.floor), h, e, c.want, api.OK)
	}
}

// pulses are data for 16 0 of the length 4 with a time and a height, which gives a hit at that time, after those of another one.
func pulses(n ...int) []int {
	data := make([]int, 40)
	for pair := range slices.Chunk(n, 2) {
		data[pair[0]+1] = pair[1]
	}
	return data
}

// P7.6: the loudest hit is chosen first; of equally loud ones the first; others are left out only near to one that is chosen.
func TestLoudest(t *testing.T) {
	one := chirps(16, 0)
	for _, c := range []struct {
		l      []api.Chirp
		data   []int
		window int
		want   []api.Hit
	}{
		{one, pulses(0, 2, 3, 1, 6, 1), 3, hitList(0, 0, 254, 3, 0, 127, 6, 0, 127)}, {one, pulses(0, 2, 3, 1, 6, 1), 4, hitList(0, 0, 254, 6, 0, 127)}, {one, pulses(0, 2, 3, 1, 6, 1), 6, hitList(0, 0, 254, 6, 0, 127)}, {one, pulses(0, 2, 3, 1, 6, 1), 7, hitList(0, 0, 254)}, {one, pulses(0, 2, 3, 1, 6, 1), 512, hitList(0, 0, 254)}, {one, pulses(0, 2, 3, 1, 6, 1), 1, hitList(0, 0, 254, 3, 0, 127, 6, 0, 127)},
		{one, pulses(0, 1, 3, 2, 6, 1), 4, hitList(3, 0, 254)}, {one, pulses(0, 1, 3, 2, 6, 1), 3, hitList(0, 0, 127, 3, 0, 254, 6, 0, 127)}, {one, pulses(0, 1, 3, 1, 6, 1), 4, hitList(0, 0, 127, 6, 0, 127)}, {one, pulses(0, 1, 3, 1, 6, 2), 4, hitList(0, 0, 127, 6, 0, 254)}, {one, pulses(0, 2, 3, 1, 6, 2), 7, hitList(0, 0, 254)}, {one, pulses(0, 2, 3, 1, 6, 3), 7, hitList(6, 0, 381)},
		// Not near to a hit that is left out itself.
		{one, pulses(0, 4, 3, 3, 6, 2, 9, 1), 4, hitList(0, 0, 508, 6, 0, 254)},
		// 48 32 has the same wave; 8 0 has the same output at 4, but with a greater norm.
		{chirps(16, 0, 48, 32), pulses(5, 1), 1, hitList(5, 0, 127)}, {chirps(48, 32, 16, 0), pulses(5, 1), 1, hitList(5, 0, 127)}, {chirps(8, 0, 16, 0, 48, 32), pulses(5, 1), 2, hitList(3, 0, 90, 5, 1, 127)}, {chirps(8, 0, 16, 0), pulses(5, 1), 1, hitList(3, 0, 90, 4, 0, 127, 5, 1, 127)},
		{nil, pulses(5, 1), 1, nil}, {one, nil, 1, nil}, {one, pulses(), 1, nil},
	} {
		h, e := Loudest(4, c.l, c.data, 1, 0, c.window)
		isList(t, fmt.Sprint(c.l, c.data, c.window), h, e, c.want, api.OK)
	}
	// A hit that is no hit because of the floor hides none.
	h, e := Loudest(4, one, pulses(0, 1, 3, 2), 1, 1, 512)
	isList(t, "Loudest", h, e, hitList(3, 0, 254), api.OK)
}

// P7.6: the error of CheckBank comes first, then ErrData, then ErrRange.
func TestErrorsOfHits(t *testing.T) {
	all := func(length int, l []api.Chirp, data []int, variance, floor, window int, want, wantLoudest api.Errno) {
		t.Helper()
		what := fmt.Sprint(length, l, len(data), variance, floor, window)
		h, e := Hits(length, l, data, variance, floor)
		isList(t, what, h, e, nil, want)
		h, e = Loudest(length, l, data, variance, floor, window)
		isList(t, what, h, e, nil, wantLoudest)
	}
	good := chirps(16, 0)
	for _, n := range list(0, 1, -1) {
		for _, data := range append(wrongData(), make([]int, 9)) {
			for _, length := range wrongLengths() {
				all(length, good, data, n, n, n, api.ErrChirp, api.ErrChirp)
				all(length, chirps(0, 0), data, n, n, n, api.ErrChirp, api.ErrChirp)
			}
			for _, l := range wrongBanks() {
				all(4, l, data, n, n, n, api.ErrBank, api.ErrBank)
			}
		}
		for _, data := range wrongData() {
			all(4, good, data, n, n, n, api.ErrData, api.ErrData)
			all(4, nil, data, n, n, n, api.ErrData, api.ErrData)
		}
	}
	for _, l := range [][]api.Chirp{nil, good} {
		for _, data := range lists(nil, make([]int, 512)) {
			for _, n := range list(0, -1, -1<<63, 1<<20+1, 1<<32, 1<<63-1) {
				all(4, l, data, n, 1, 1, api.ErrRange, api.ErrRange)
				all(64, l, data, n, -1, 0, api.ErrRange, api.ErrRange)
			}
			for _, n := range list(-1, -1<<63, 1<<16+1, 1<<32, 1<<63-1) {
				all(4, l, data, 1, n, 1, api.ErrRange, api.ErrRange)
			}
			for _, n := range list(0, -1, -1<<63, 513, 1<<32, 1<<63-1) {
				all(4, l, data, 1, 0, n, api.OK, api.ErrRange)
			}
			for _, variance := range list(1, 1<<20) {
				for _, floor := range list(0, 1, 1<<16) {
					for _, window := range list(1, 2, 512) {
						all(4, l, data, variance, floor, window, api.OK, api.OK)
					}
				}
			}
		}
	}
	for _, data := range validData() {
		_, e := Hits(4, good, data, 1, 0)
		hasError(t, "Hits", e, api.OK)
		_, e = Loudest(4, good, data, 1, 0, 1)
		hasError(t, "Loudest", e, api.OK)
	}
}

// P7.6, P7.14: as the definitions say; each hit is chosen, or near to a louder one that is chosen.
func TestRandomHits(t *testing.T) {
	r := rand.New(rand.NewSource(5))
	left, chosen := 0, 0
	for range 1500 {
		length, l := pick(r, 4, 4, 5, 8, 12), randomBank(r, 5)
		data := randomData(r, length, 40, l)
		variance, floor, window := 1+r.Intn(300), r.Intn(pick(r, 1, 50, 500)), 1+r.Intn(pick(r, 1, 3, 10, 60))
		what := fmt.Sprint(length, l, data, variance, floor, window)
		h, e := Hits(length, l, data, variance, floor)
		isList(t, what, h, e, modelHits(length, l, data, variance, floor), api.OK)
		best, e := Loudest(length, l, data, variance, floor, window)
		isList(t, what, best, e, modelLoudest(length, l, h, window), api.OK)
		for _, a := range h {
			isHidden := func(b api.Hit) bool { return a == b || isNear(a, b, window) && modelLouder(length, l, b, a) }
			if !slices.ContainsFunc(best, isHidden) {
				t.Errorf("%s: %v is left out", what, a)
			}
		}
		left, chosen = left+len(h)-len(best), chosen+len(best)
	}
	if left < 1000 || chosen < 1000 {
		t.Errorf("%d hits are chosen, %d left out", chosen, left)
	}
}

// P7.6: the greatest data, whose hits differ by little.
func TestGreatHits(t *testing.T) {
	r := rand.New(rand.NewSource(6))
	for range 3 {
		l := nearBank(r, family(64, 3, 5, 1, 2), 8)
		if len(l) == 0 {
			continue
		}
		data := greatData(r, 64, l)
		variance, floor := pick(r, 1, 1<<20), pick(r, 1, 1<<12, 1<<16)
		h, e := Hits(64, l, data, variance, floor)
		isList(t, fmt.Sprint(l), h, e, modelHits(64, l, data, variance, floor), api.OK)
		for _, window := range list(1, 9, 512) {
			best, e := Loudest(64, l, data, variance, floor, window)
			isList(t, fmt.Sprint(l, window), best, e, modelLoudest(64, l, h, window), api.OK)
		}
	}
}

// P7.6: the greatest bank, in the most data.
func TestMostHits(t *testing.T) {
	r := rand.New(rand.NewSource(7))
	for _, length := range list(4, 64) {
		l := fullBank()
		data := greatData(r, length, l)
		h, e := Hits(length, l, data, 1, 0)
		isList(t, fmt.Sprint(length), h, e, modelHits(length, l, data, 1, 0), api.OK)
		best, e := Loudest(length, l, data, 1, 0, 512)
		isList(t, fmt.Sprint(length), best, e, modelLoudest(length, l, h, 512), api.OK)
		best = must[[]api.Hit](t)(Loudest(length, l, data, 1, 0, 1))
		if len(best) < 400 {
			t.Errorf("%d: only %d hits", length, len(best))
		}
	}
}

// P7.12: outputs are linear in the data.
func TestLinear(t *testing.T) {
	r := rand.New(rand.NewSource(8))
	for range 500 {
		length, c := randomLength(r), randomChirp(r)
		many := r.Intn(100)
		x, y, a, b := randomList(r, many, 1000), randomList(r, many, 1000), randomNumber(r, 16), randomNumber(r, 16)
		mixed := make([]int, many)
		for i := range mixed {
			mixed[i] = a*x[i] + b*y[i]
		}
		first, second := must[[]int](t)(Filter(length, c, x)), must[[]int](t)(Filter(length, c, y))
		var want []int
		for i := range first {
			want = append(want, a*first[i]+b*second[i])
		}
		out, e := Filter(length, c, mixed)
		isList(t, fmt.Sprint(length, c, mixed), out, e, want, api.OK)
		isList(t, fmt.Sprint(length, c, mixed), out, e, modelOutputs(length, c, mixed), api.OK)
	}
}
