package bank

import (
	"fmt"
	"math/rand"
	"slices"
	"testing"

	"ringdown/api"
)

// P7.7: the examples, pieces that are silent, and the ends of the times and the parts.
func TestMisfit(t *testing.T) {
	most := 1 << 15
	for _, c := range []struct {
		length   int
		c        api.Chirp
		data     []int
		t, parts int
		want     api.Num
	}{
		{4, chirp(16, 0), list(0, 127, 0, -127), 0, 2, "0"}, {4, chirp(16, 0), list(0, 127, 0, 127), 0, 2, "32258"}, {4, chirp(16, 0), list(0, 127, 0, 127), 0, 1, "0"}, {4, chirp(16, 0), list(0, 127, 0, 127), 0, 4, "32258"}, {4, chirp(16, 0), list(5, 127, 9, -127), 0, 4, "0"}, {4, chirp(16, 0), list(9, 9, 0, 127, 0, 127, 9), 2, 2, "32258"}, {4, chirp(16, 0), list(9, 9, 0, 127, 0, 127), 2, 2, "32258"},
		{4, chirp(8, 0), list(0, 1, 0, 0), 0, 2, "24229/32329"}, {4, chirp(8, 0), list(7, 0, 0, 0), 0, 2, "0"}, {4, chirp(8, 0), list(0, -1, 0, 0), 0, 4, "24229/32329"}, {4, chirp(8, 0), list(0, 90, 127, 90), 0, 4, "0"}, {4, chirp(8, 0), list(0, -180, -254, -180), 0, 4, "0"},
		// The first half of 31 1 is silent: 0 0 25 -71.
		{4, chirp(31, 1), list(9, 9, 25, -71), 0, 2, "0"}, {4, chirp(31, 1), list(9, 9, 1, 1), 0, 2, "0"}, {4, chirp(31, 1), list(9, 9, 1, 1), 0, 4, "4608/2833"},
		{4, chirp(16, 0), list(0, most, 0, most), 0, 2, "2147483648"}, {4, chirp(16, 0), list(most, -most, most, -most), 0, 4, "2147483648"},
		{64, chirp(16, 0), slices.Repeat(list(0, 127, 0, -127), 16), 0, 8, "0"}, {64, chirp(16, 0), make([]int, 512), 448, 8, "0"}, {6, chirp(3, 2), list(1, 0, 0, 0, 0, 0, 0), 1, 3, "0"}, {5, chirp(3, 2), make([]int, 5), 0, 5, "0"},
	} {
		m, e := Misfit(c.length, c.c, c.data, c.t, c.parts)
		is(t, fmt.Sprint(c.length, c.c, c.data, c.t, c.parts), m, e, c.want, api.OK)
	}
}

// P7.7: ErrNone comes first (after ErrChirp), then ErrData, then ErrRange, then ErrArg.
func TestErrorsOfMisfits(t *testing.T) {
	good := make([]int, 10)
	check := func(length int, c api.Chirp, data []int, time, parts int, want api.Errno) {
		t.Helper()
		m, e := Misfit(length, c, data, time, parts)
		is(t, fmt.Sprint(length, c, len(data), time, parts), m, e, "", want)
	}
	times, parts := list(-1, 7, 8, 10, 1<<62, 1<<63-1, -1<<63), list(0, 3, 5, 6, 7, 8, 9, -1, -2, 16, 1<<62, -1<<63)
	for _, n := range append(times, 0) {
		for _, k := range append(parts, 2) {
			for _, c := range silent() {
				for _, data := range append(wrongData(), good) {
					check(4, c, data, n, k, api.ErrNone)
				}
			}
			for _, data := range wrongData() {
				check(4, chirp(16, 0), data, n, k, api.ErrData)
			}
		}
	}
	for _, k := range append(parts, 2) {
		for _, n := range times {
			check(4, chirp(16, 0), good, n, k, api.ErrRange)
		}
		for _, data := range lists(nil, list(1), list(1, 2, 3)) {
			for _, n := range list(0, -1, 1, -3, -4) {
				check(4, chirp(16, 0), data, n, k, api.ErrRange)
			}
		}
	}
	for _, n := range list(0, 1, 6) {
		for _, k := range parts {
			check(4, chirp(16, 0), good, n, k, api.ErrArg)
		}
	}
	check(16, chirp(16, 0), make([]int, 16), 0, 16, api.ErrArg)
	check(9, chirp(16, 0), make([]int, 9), 0, 9, api.ErrArg)
	check(63, chirp(16, 0), make([]int, 63), 0, 8, api.ErrArg)
}

// P7.7, P7.13: as the definition says; a misfit is never less than 0, and 0 for a multiple of the wave.
func TestRandomMisfits(t *testing.T) {
	r := rand.New(rand.NewSource(9))
	for range 3000 {
		length, c := randomLength(r), heardChirp(r)
		data := randomList(r, length+r.Intn(9), pick(r, 1, 100, api.MaxDatum))
		at, amp := r.Intn(len(data)-length+1), randomNumber(r, 200)
		multiple := slices.Clone(data)
		for t, n := range modelWave(length, c) {
			multiple[at+t] = amp * n
		}
		for parts := 1; parts <= 8; parts++ {
			if length%parts != 0 {
				continue
			}
			what := fmt.Sprint(length, c, data, at, parts)
			m, e := Misfit(length, c, data, at, parts)
			is(t, what, m, e, numOf(modelMisfit(length, c, data, at, parts)), api.OK)
			if ratOf(m).Sign() < 0 {
				t.Errorf("%s: %s", what, m)
			}
			m, e = Misfit(length, c, multiple, at, parts)
			is(t, what, m, e, "0", api.OK)
		}
	}
}

// P7.13: the outputs of the pieces add up to the output.
func TestOutputsOfPieces(t *testing.T) {
	r := rand.New(rand.NewSource(10))
	for range 300 {
		parts, c := 1+r.Intn(8), randomChirp(r)
		size := 4 + r.Intn(64/parts-3)
		length := parts * size
		data := randomList(r, length, api.MaxDatum)
		sum := 0
		for k := range parts {
			under := make([]int, length)
			copy(under[k*size:(k+1)*size], data[k*size:(k+1)*size])
			sum += must[[]int](t)(Filter(length, c, under))[0]
		}
		out, e := Filter(length, c, data)
		isList(t, fmt.Sprint(length, c, data), out, e, list(sum), api.OK)
	}
}

// P7.8: the example, and what is just enough, or just not.
func TestSure(t *testing.T) {
	for _, c := range []struct {
		length                 int
		c                      api.Chirp
		noise, variance, floor int
		want                   int
		e                      api.Errno
	}{
		{4, chirp(16, 0), 10, 100, 25, 1, api.OK}, {4, chirp(16, 0), 0, 1, 0, 1, api.OK}, {4, chirp(16, 0), 0, 1 << 20, 0, 1, api.OK},
		// The norm is 127 times the reach: the output has to be greater than 0.
		{4, chirp(16, 0), 126, 1, 0, 1, api.OK}, {4, chirp(16, 0), 127, 1, 0, 2, api.OK}, {4, chirp(16, 0), 128, 1, 0, 2, api.OK}, {4, chirp(16, 0), 253, 1, 0, 2, api.OK}, {4, chirp(16, 0), 254, 1, 0, 3, api.OK}, {4, chirp(16, 0), 1 << 15, 1, 0, 259, api.OK},
		// Its square has to be at least as great as a multiple of the norm.
		{4, chirp(16, 0), 0, 1, 32258, 1, api.OK}, {4, chirp(16, 0), 0, 1, 32259, 2, api.OK}, {4, chirp(16, 0), 0, 32258, 1, 1, api.OK}, {4, chirp(16, 0), 0, 32259, 1, 2, api.OK}, {4, chirp(16, 0), 0, 4, 32258, 2, api.OK}, {4, chirp(16, 0), 127, 1, 32258, 2, api.OK}, {4, chirp(16, 0), 127, 1, 32259, 3, api.OK},
		{4, chirp(16, 0), 0, 1 << 20, 1 << 16, 1460, api.OK}, {4, chirp(16, 0), 1 << 15, 1 << 20, 1 << 16, 1718, api.OK},
		{4, chirp(0, 0), 10, 100, 25, 0, api.ErrNone}, {64, chirp(16, 48), 10, 100, 25, 0, api.ErrNone}, {4, chirp(32, 0), -1, 0, -1, 0, api.ErrNone},
	} {
		n, e := Sure(c.length, c.c, c.noise, c.variance, c.floor)
		is(t, fmt.Sprint(c.length, c.c, c.noise, c.variance, c.floor), n, e, c.want, c.e)
	}
	for _, n := range list(-1, -1<<63, 1<<32, 1<<62, 1<<63-1) {
		for _, c := range [][3]int{{n, 1, 0}, {0, n, 0}, {0, 1, n}, {n, n, n}, {1<<15 + 1, 1, 0}, {0, 1<<20 + 1, 0}, {0, 0, 0}, {0, 1, 1<<16 + 1}} {
			a, e := Sure(4, chirp(16, 0), c[0], c[1], c[2])
			is(t, fmt.Sprint(c), a, e, 0, api.ErrRange)
		}
	}
}

// P7.8: what is sure is the least such amplitude, for all chirps. (There always is one: a sample that is not 0 is at least 12, so 2^20 is never too small.)
func TestLeastSure(t *testing.T) {
	r := rand.New(rand.NewSource(11))
	for p := range 64 {
		for q := range 64 {
			c := chirp(p, q)
			if slices.Contains(silent(), c) {
				continue
			}
			length := randomLength(r)
			w := modelWave(length, c)
			for _, b := range [][3]int{{1 << 15, 1 << 20, 1 << 16}, {r.Intn(1<<15 + 1), 1 + r.Intn(1<<20), r.Intn(1<<16 + 1)}, {r.Intn(2000), 1 + r.Intn(1000), r.Intn(1000)}, {r.Intn(2000), 1, 0}} {
				what := fmt.Sprint(length, c, b)
				a, e := Sure(length, c, b[0], b[1], b[2])
				hasError(t, what, e, api.OK)
				if !modelIsSure(w, a, b[0], b[1], b[2]) || a > 1 && modelIsSure(w, a-1, b[0], b[1], b[2]) || a < 1 {
					t.Errorf("%s: %d", what, a)
				}
			}
		}
	}
}

// P7.12: what is sure is a hit with whatever noise; with the worst noise, less is none.
func TestSureIsHit(t *testing.T) {
	r := rand.New(rand.NewSource(12))
	without := 0
	for range 1000 {
		length, c := randomLength(r), heardChirp(r)
		noise, variance, floor := r.Intn(300), 1+r.Intn(300), r.Intn(300)
		a := must[int](t)(Sure(length, c, noise, variance, floor))
		w := modelWave(length, c)
		at := r.Intn(9)
		// The noise is random, or the worst one.
		isHit := func(a int, isWorst bool) bool {
			data := randomList(r, at+length+r.Intn(9), noise)
			for t, n := range w {
				if isWorst && n != 0 {
					data[at+t] = -noise * n / max(n, -n)
				}
				data[at+t] += a * n
			}
			h := must[[]api.Hit](t)(Hits(length, []api.Chirp{c}, data, variance, floor))
			return slices.ContainsFunc(h, func(h api.Hit) bool { return h.Time == at })
		}
		what := fmt.Sprint(length, c, noise, variance, floor, a)
		if !isHit(a, false) || !isHit(a, true) || !isHit(a+1, true) || !isHit(a+10, false) {
			t.Errorf("%s: no hit", what)
		}
		if a > 1 {
			without++
			if isHit(a-1, true) {
				t.Errorf("%s: a hit with less", what)
			}
		}
	}
	if without < 100 {
		t.Errorf("only %d of 1000", without)
	}
}
