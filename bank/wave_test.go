package bank

import (
	"fmt"
	"math/rand"
	"slices"
	"testing"

	"ringdown/api"
)

func wrongLengths() []int { return list(0, 1, 2, 3, 65, 128, -4, -64, 1<<62, -1<<63, 1<<63-1) }

func wrongChirps() []api.Chirp {
	l := chirps(-1, 0, 0, -1, 64, 0, 0, 64, 64, 64, -1, -1)
	for _, n := range list(65, 128, 80, -48, 1<<32, 1<<62, 1<<63-1, -1<<63) {
		l = append(l, chirp(n, 0), chirp(0, n), chirp(16, n), chirp(n, n))
	}
	return l
}

// P7.1: which lengths and chirps there are; silent ones are chirps too.
func TestCheckChirp(t *testing.T) {
	for _, length := range list(4, 5, 63, 64) {
		for p := range 64 {
			for q := range 64 {
				hasError(t, fmt.Sprint(length, p, q), CheckChirp(length, chirp(p, q)), api.OK)
			}
		}
		for _, c := range wrongChirps() {
			hasError(t, fmt.Sprint(length, c), CheckChirp(length, c), api.ErrChirp)
		}
	}
	for _, length := range wrongLengths() {
		for _, c := range append(wrongChirps(), chirp(16, 0), chirp(0, 0)) {
			hasError(t, fmt.Sprint(length, c), CheckChirp(length, c), api.ErrChirp)
		}
	}
}

// hasChirpError calls all functions with a chirp, with other arguments that are wrong too.
func hasChirpError(t *testing.T, length int, c api.Chirp) {
	t.Helper()
	what := fmt.Sprint(length, c)
	w, e := Wave(length, c)
	isList(t, what, w, e, nil, api.ErrChirp)
	n, e := Norm(length, c)
	is(t, what, n, e, 0, api.ErrChirp)
	for _, other := range append(chirps(16, 0, 0, 0), c) {
		for _, shift := range list(0, 100) {
			n, e = Overlap(length, c, other, shift)
			is(t, what, n, e, 0, api.ErrChirp)
			n, e = Overlap(length, other, c, shift)
			is(t, what, n, e, 0, api.ErrChirp)
		}
		m, e := Match(length, c, other)
		is(t, what, m, e, "", api.ErrChirp)
		m, e = Match(length, other, c)
		is(t, what, m, e, "", api.ErrChirp)
	}
	for _, data := range lists(nil, make([]int, 100), make([]int, 513), list(1<<16)) {
		out, e := Filter(length, c, data)
		isList(t, what, out, e, nil, api.ErrChirp)
		for _, n := range list(0, -1, 1000) {
			m, e := Misfit(length, c, data, n, n)
			is(t, what, m, e, "", api.ErrChirp)
			s, e := Sure(length, c, n, n, n)
			is(t, what, s, e, 0, api.ErrChirp)
		}
	}
}

// P7.1: ErrChirp comes before all other errors.
func TestChirpFirst(t *testing.T) {
	for _, length := range list(4, 64) {
		for _, c := range wrongChirps() {
			hasChirpError(t, length, c)
		}
	}
	for _, length := range wrongLengths() {
		for _, c := range chirps(16, 0, 0, 0, 64, 0) {
			hasChirpError(t, length, c)
		}
	}
}

// P7.1: the examples, and the whole table.
func TestWave(t *testing.T) {
	for _, c := range []struct {
		length int
		c      api.Chirp
		want   []int
		norm   int
	}{
		{4, chirp(16, 0), list(0, 127, 0, -127), 32258}, {4, chirp(8, 0), list(0, 90, 127, 90), 32329}, {4, chirp(48, 0), list(0, -127, 0, 127), 32258}, {4, chirp(0, 0), list(0, 0, 0, 0), 0}, {5, chirp(0, 1), list(0, 12, 49, 98, 127), 28278}, {4, chirp(63, 63), list(0, -25, -71, -117), 19355},
		{6, chirp(3, 2), list(0, 60, 125, 60, -117, 12), 36658}, {64, chirp(1, 0), modelTable(), modelNorm(modelTable())}, {64, chirp(33, 32), modelTable(), modelNorm(modelTable())}, {64, chirp(16, 16), make([]int, 64), 0},
		{64, chirp(16, 0), slices.Repeat(list(0, 127, 0, -127), 16), 516128},
	} {
		w, e := Wave(c.length, c.c)
		isList(t, fmt.Sprint(c.length, c.c), w, e, c.want, api.OK)
		n, e := Norm(c.length, c.c)
		is(t, fmt.Sprint(c.length, c.c), n, e, c.norm, api.OK)
	}
}

// P7.1: all waves, and which of them are silent.
func TestAllWaves(t *testing.T) {
	for _, length := range list(4, 5, 8, 31, 63, 64) {
		for p := range 64 {
			for q := range 64 {
				c, what := chirp(p, q), fmt.Sprint(length, p, q)
				w, e := Wave(length, c)
				isList(t, what, w, e, modelWave(length, c), api.OK)
				n, e := Norm(length, c)
				is(t, what, n, e, modelNorm(w), api.OK)
				is(t, what, n == 0, api.OK, slices.Contains(silent(), c), api.OK)
			}
		}
	}
}

// P7.1: the examples, and both ends of the shifts.
func TestOverlap(t *testing.T) {
	for _, c := range []struct {
		length int
		a, b   api.Chirp
		shift  int
		want   int
		e      api.Errno
	}{
		{4, chirp(16, 0), chirp(16, 0), 0, 32258, api.OK}, {4, chirp(16, 0), chirp(16, 0), 1, 0, api.OK}, {4, chirp(16, 0), chirp(16, 0), 2, -16129, api.OK}, {4, chirp(16, 0), chirp(16, 0), -2, -16129, api.OK},
		// One of them is later than the other one: 0 90 127 90 and 0 127 0 -127.
		{4, chirp(8, 0), chirp(16, 0), 0, 0, api.OK}, {4, chirp(8, 0), chirp(16, 0), 1, -127 * 127, api.OK}, {4, chirp(8, 0), chirp(16, 0), -1, 127 * 127, api.OK}, {4, chirp(8, 0), chirp(16, 0), 2, -127 * 90, api.OK}, {4, chirp(8, 0), chirp(16, 0), -2, 127 * 90, api.OK}, {4, chirp(8, 0), chirp(16, 0), 3, 0, api.OK}, {4, chirp(8, 0), chirp(16, 0), -3, 0, api.OK},
		{4, chirp(16, 0), chirp(8, 0), 1, 127 * 127, api.OK}, {4, chirp(16, 0), chirp(8, 0), -1, -127 * 127, api.OK},
		{4, chirp(0, 0), chirp(8, 0), 1, 0, api.OK}, {4, chirp(8, 0), chirp(0, 0), 1, 0, api.OK},
		{4, chirp(16, 0), chirp(8, 0), 4, 0, api.ErrRange}, {4, chirp(16, 0), chirp(8, 0), -4, 0, api.ErrRange}, {5, chirp(16, 0), chirp(8, 0), 4, 0, api.OK}, {64, chirp(16, 0), chirp(8, 0), 63, 0, api.OK}, {64, chirp(16, 0), chirp(8, 0), -63, 0, api.OK}, {64, chirp(16, 0), chirp(8, 0), 64, 0, api.ErrRange}, {64, chirp(16, 0), chirp(8, 0), -64, 0, api.ErrRange},
		{4, chirp(0, 0), chirp(0, 0), 1 << 62, 0, api.ErrRange}, {4, chirp(16, 0), chirp(8, 0), -1 << 63, 0, api.ErrRange}, {4, chirp(16, 0), chirp(8, 0), 1<<63 - 1, 0, api.ErrRange},
	} {
		n, e := Overlap(c.length, c.a, c.b, c.shift)
		is(t, fmt.Sprint(c.length, c.a, c.b, c.shift), n, e, c.want, c.e)
	}
}

// P7.1: the examples, silent chirps, and chirps that never overlap with more than 0.
func TestMatch(t *testing.T) {
	for _, c := range []struct {
		length int
		a, b   api.Chirp
		want   api.Num
		e      api.Errno
	}{
		{4, chirp(16, 0), chirp(48, 0), "1/4", api.OK}, {4, chirp(16, 0), chirp(16, 0), "1", api.OK}, {4, chirp(16, 0), chirp(48, 32), "1", api.OK}, {64, chirp(16, 0), chirp(48, 0), "961/1024", api.OK},
		{4, chirp(8, 0), chirp(56, 0), "0", api.OK}, {4, chirp(56, 0), chirp(8, 0), "0", api.OK}, {4, chirp(8, 0), chirp(8, 0), "1", api.OK},
		{4, chirp(32, 0), chirp(16, 0), "", api.ErrNone}, {4, chirp(16, 0), chirp(32, 0), "", api.ErrNone}, {4, chirp(0, 0), chirp(0, 0), "", api.ErrNone}, {64, chirp(16, 16), chirp(1, 1), "", api.ErrNone}, {64, chirp(1, 1), chirp(48, 48), "", api.ErrNone},
	} {
		m, e := Match(c.length, c.a, c.b)
		is(t, fmt.Sprint(c.length, c.a, c.b), m, e, c.want, c.e)
	}
}

// P7.1, P7.10: as the definitions say; the match is from 0 to 1, the same in both orders, and 1 for a chirp with itself.
func TestRandomChirps(t *testing.T) {
	r := rand.New(rand.NewSource(1))
	for range 3000 {
		length, a, b := randomLength(r), heardChirp(r), heardChirp(r)
		what := fmt.Sprint(length, a, b)
		v, w := modelWave(length, a), modelWave(length, b)
		shift := randomNumber(r, length-1)
		n, e := Overlap(length, a, b, shift)
		is(t, what, n, e, modelOverlap(v, w, shift), api.OK)
		n, e = Overlap(length, b, a, -shift)
		is(t, what, n, e, modelOverlap(v, w, shift), api.OK)
		m, e := Match(length, a, b)
		is(t, what, m, e, numOf(modelMatch(v, w)), api.OK)
		if x := ratOf(m); x.Sign() < 0 || x.Cmp(whole(1)) > 0 {
			t.Errorf("%s: %s", what, m)
		}
		other, e := Match(length, b, a)
		is(t, what, other, e, m, api.OK)
		m, e = Match(length, a, a)
		is(t, what, m, e, "1", api.OK)
	}
}
