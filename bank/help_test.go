package bank

import (
	"fmt"
	"math/big"
	"math/rand"
	"slices"
	"strings"
	"testing"

	"ringdown/api"
)

func list(n ...int) []int { return n }

func lists(l ...[]int) [][]int { return l }

func nums(l ...api.Num) []api.Num { return l }

func chirp(p, q int) api.Chirp { return api.Chirp{P: p, Q: q} }

// chirps has P and Q of one chirp after those of another one.
func chirps(n ...int) []api.Chirp {
	var l []api.Chirp
	for pair := range slices.Chunk(n, 2) {
		l = append(l, chirp(pair[0], pair[1]))
	}
	return l
}

func family(length, fromP, toP, fromQ, toQ int) api.Family {
	return api.Family{Length: length, FromP: fromP, ToP: toP, FromQ: fromQ, ToQ: toQ}
}

// example is a family of two points, 31 0 and 33 0, with a silent chirp between them.
func example() api.Family { return family(4, 31, 33, 0, 0) }

// fits has the chirp and the shift of one fit after those of another one.
func fits(n ...int) []api.Fit {
	var l []api.Fit
	for pair := range slices.Chunk(n, 2) {
		l = append(l, api.Fit{Chirp: pair[0], Shift: pair[1]})
	}
	return l
}

// hitList has the time, the chirp and the output of one hit after those of another one.
func hitList(n ...int) []api.Hit {
	var l []api.Hit
	for three := range slices.Chunk(n, 3) {
		l = append(l, api.Hit{Time: three[0], Chirp: three[1], Out: three[2]})
	}
	return l
}

// must returns a result of a call that has no error.
func must[T any](t *testing.T) func(T, api.Errno) T {
	return func(a T, e api.Errno) T {
		t.Helper()
		if e != api.OK {
			t.Fatalf("error %d", e)
		}
		return a
	}
}

// is checks a result that can be compared; with an error it is the zero value.
func is[T comparable](t *testing.T, what string, got T, e api.Errno, want T, wantError api.Errno) {
	t.Helper()
	if got != want || e != wantError {
		t.Errorf("%s: %v, %d, not %v, %d", what, got, e, want, wantError)
	}
}

func hasError(t *testing.T, what string, e, want api.Errno) {
	t.Helper()
	if e != want {
		t.Errorf("%s: %d, not %d", what, e, want)
	}
}

// isList checks a list; with an error it has no elements.
func isList[T comparable](t *testing.T, what string, got []T, e api.Errno, want []T, wantError api.Errno) {
	t.Helper()
	if !slices.Equal(got, want) || e != wantError {
		t.Errorf("%s: %v, %d, not %v, %d", what, got, e, want, wantError)
	}
}

func pick[T any](r *rand.Rand, l ...T) T { return l[r.Intn(len(l))] }

func randomNumber(r *rand.Rand, most int) int { return r.Intn(2*most+1) - most }

func randomList(r *rand.Rand, many, most int) []int {
	l := make([]int, many)
	for i := range l {
		l[i] = randomNumber(r, most)
	}
	return l
}

func randomLength(r *rand.Rand) int {
	return pick(r, 4, 4, 5, 6, 8, 12, 16, 63, 64, 4+r.Intn(61))
}

func randomChirp(r *rand.Rand) api.Chirp {
	return chirp(pick(r, 0, 16, 31, 32, 48, 63, r.Intn(64), r.Intn(64), r.Intn(64)), pick(r, 0, 0, 1, 16, 63, r.Intn(64), r.Intn(64)))
}

// heardChirp is not silent.
func heardChirp(r *rand.Rand) api.Chirp {
	for {
		if c := randomChirp(r); !slices.Contains(silent(), c) {
			return c
		}
	}
}

// randomBank has at most so many chirps.
func randomBank(r *rand.Rand, most int) []api.Chirp {
	var l []api.Chirp
	for range r.Intn(most + 1) {
		if c := heardChirp(r); !slices.Contains(l, c) {
			l = append(l, c)
		}
	}
	return l
}

// randomFamily has at most so many pairs of numbers in each direction.
func randomFamily(r *rand.Rand, most int) api.Family {
	f := family(randomLength(r), r.Intn(64), 0, pick(r, 0, 16, r.Intn(64)), 0)
	f.ToP = min(63, f.FromP+r.Intn(most))
	f.ToQ = min(63, f.FromQ+r.Intn(most))
	return f
}

// nearBank has points of a family and other chirps.
func nearBank(r *rand.Rand, f api.Family, most int) []api.Chirp {
	l := randomBank(r, most/2)
	for _, c := range modelPoints(f) {
		if r.Intn(4) == 0 && len(l) < most && !slices.Contains(l, c) {
			l = append(l, c)
		}
	}
	r.Shuffle(len(l), func(i, k int) { l[i], l[k] = l[k], l[i] })
	return l
}

// randomLeast is sometimes just what two chirps reach.
func randomLeast(r *rand.Rand, f api.Family, l []api.Chirp) api.Num {
	points := modelPoints(f)
	if len(points) > 0 && len(l) > 0 && r.Intn(2) == 0 {
		m := modelMatch(modelWave(f.Length, pick(r, points...)), modelWave(f.Length, pick(r, l...)))
		if len(m.Num().String()) <= 6 && len(m.Denom().String()) <= 6 {
			return numOf(m)
		}
	}
	d := 1 + r.Intn(pick(r, 1, 2, 4, 10, 999999))
	return numOf(big.NewRat(int64(r.Intn(d+1)), int64(d)))
}

// randomData are noise, with some waves of chirps.
func randomData(r *rand.Rand, length, most int, l []api.Chirp) []int {
	data := randomList(r, r.Intn(most+1), pick(r, 0, 1, 5, 300))
	if len(l) == 0 {
		return data
	}
	for range r.Intn(6) {
		amp := randomNumber(r, 3)
		w := modelWave(length, pick(r, l...))
		at := randomNumber(r, most)
		for t, n := range w {
			if i := at + t; 0 <= i && i < len(data) {
				data[i] += amp * n
			}
		}
	}
	return data
}

// greatData are as great as they may be, with the signs of chirps.
func greatData(r *rand.Rand, length int, l []api.Chirp) []int {
	data := randomList(r, api.MaxData, api.MaxDatum)
	for range 12 {
		w := modelWave(length, pick(r, l...))
		at := r.Intn(len(data) - length + 1)
		for t, n := range w {
			if n != 0 {
				data[at+t] = n / max(n, -n) * (api.MaxDatum - r.Intn(2))
			}
		}
	}
	return data
}

// digits returns a number of so many digits 7.
func digits(many int) api.Num { return api.Num(strings.Repeat("7", many)) }

func numOf(x *big.Rat) api.Num { return api.Num(x.RatString()) }

func ratOf(a api.Num) *big.Rat {
	x, ok := new(big.Rat).SetString(string(a))
	if !ok {
		panic(fmt.Sprint("no number: ", a))
	}
	return x
}
