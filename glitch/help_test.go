package glitch

import (
	"fmt"
	"math/rand"
	"slices"
	"strings"
	"testing"

	"ringdown/api"
)

func list(n ...int) []int { return n }

func lists(l ...[]int) [][]int { return l }

func nums(l ...api.Num) []api.Num { return l }

func tile(level, at, d int) api.Tile { return api.Tile{Level: level, At: at, D: d} }

// veto has the segments from the first bound to the second one, from the third one to the fourth one, and so on.
func veto(name string, bounds ...int) api.Veto {
	v := api.Veto{Name: name}
	for pair := range slices.Chunk(bounds, 2) {
		v.Segments = append(v.Segments, api.Segment{From: pair[0], To: pair[1]})
	}
	return v
}

func vetoes(l ...api.Veto) []api.Veto { return l }

// example is the signal of the chapter's examples.
func example() []int { return list(4, 2, 5, 5) }

// exampleTiles are the tiles of the example.
func exampleTiles() []api.Tile { return []api.Tile{tile(1, 0, 2), tile(1, 1, 0), tile(2, 0, -4)} }

// exampleVetoes are those of the chapter's examples.
func exampleVetoes() []api.Veto { return vetoes(veto("a", 0, 10), veto("b", 5, 7)) }

// upTo returns the numbers from 0 up to, but not including, n.
func upTo(n int) []int {
	var l []int
	for i := range n {
		l = append(l, i)
	}
	return l
}

// must returns a result of a call that has no error.
func must[T any](t *testing.T) func(T, api.Errno) T {
	return func(a T, e api.Errno) T {
		t.Helper()
		if e != api.OK {
			t.Fatalf("error %d", e)
		}
		return a
	}
}

// is checks a result that can be compared; with an error it is the zero value.
func is[T comparable](t *testing.T, what string, got T, e api.Errno, want T, wantError api.Errno) {
	t.Helper()
	if got != want || e != wantError {
		t.Errorf("%s: %v, %d, not %v, %d", what, got, e, want, wantError)
	}
}

func hasError(t *testing.T, what string, e, want api.Errno) {
	t.Helper()
	if e != want {
		t.Errorf("%s: %d, not %d", what, e, want)
	}
}

// isList checks a list; with an error it has no elements.
func isList[T comparable](t *testing.T, what string, got []T, e api.Errno, want []T, wantError api.Errno) {
	t.Helper()
	if !slices.Equal(got, want) || e != wantError {
		t.Errorf("%s: %v, %d, not %v, %d", what, got, e, want, wantError)
	}
}

// hasFit checks a fit and its rest; with an error there is neither.
func hasFit(t *testing.T, what string, fit []api.Num, rest api.Num, e api.Errno, wantFit []api.Num, wantRest api.Num, wantError api.Errno) {
	t.Helper()
	if !slices.Equal(fit, wantFit) || rest != wantRest || e != wantError {
		t.Errorf("%s: %v, %s, %d, not %v, %s, %d", what, fit, rest, e, wantFit, wantRest, wantError)
	}
}

func pick[T any](r *rand.Rand, l ...T) T { return l[r.Intn(len(l))] }

func randomNumber(r *rand.Rand, most int) int { return r.Intn(2*most+1) - most }

func randomList(r *rand.Rand, many, most int) []int {
	l := make([]int, many)
	for i := range l {
		l[i] = randomNumber(r, most)
	}
	return l
}

// randomSignal is as noise, with some stretches that are louder, or without any change.
func randomSignal(r *rand.Rand, mostPower int) []int {
	x := randomList(r, 1<<r.Intn(mostPower+1), pick(r, 0, 1, 3, 1000, api.MaxSignal/16))
	for range r.Intn(4) {
		from := r.Intn(len(x))
		to := min(len(x), from+1+r.Intn(9))
		factor := pick(r, 0, 0, 5, 16)
		for t := from; t < to; t++ {
			x[t] = min(max(x[t]*factor, -api.MaxSignal), api.MaxSignal)
		}
	}
	return x
}

// randomThreshold is that of some tile of the signal, or near it.
func randomThreshold(r *rand.Rand, x []int) int {
	if len(x) == 1 {
		return r.Intn(2)
	}
	t := pick(r, slices.Collect(tiles(x))...)
	return max(0, t.D*t.D*len(x)>>t.Level+pick(r, -1, 0, 0, 1))
}

// randomWitnesses are sometimes such that one of them follows from the others.
func randomWitnesses(r *rand.Rand, samples int) [][]int {
	var l [][]int
	for range r.Intn(api.MaxWitness) + 1 {
		l = append(l, randomList(r, samples, pick(r, 0, 1, 2, 5, 1000, api.MaxSignal/2)))
	}
	if len(l) > 2 && r.Intn(4) == 0 {
		sign := pick(r, -1, 1)
		for t := range samples {
			l[1][t] = l[0][t] + sign*l[2][t]
		}
	}
	return l
}

func randomFit(r *rand.Rand, many int) []api.Num {
	var fit []api.Num
	for range many {
		fit = append(fit, numOf(fraction(randomNumber(r, 9), 1+r.Intn(9))))
	}
	return fit
}

func randomVetoes(r *rand.Rand, most, end int) []api.Veto {
	var l []api.Veto
	for i := range r.Intn(most + 1) {
		v := veto(fmt.Sprint("v", i))
		for range r.Intn(5) {
			from := r.Intn(end)
			v.Segments = append(v.Segments, api.Segment{From: from, To: from + 1 + r.Intn(min(pick(r, 1, 5, end), end-from))})
		}
		l = append(l, v)
	}
	return l
}

func randomTimes(r *rand.Rand, end int) []int {
	var l []int
	rare := pick(r, 1, 2, 5)
	for t := range end {
		if r.Intn(rare) == 0 {
			l = append(l, t)
		}
	}
	return l
}

// digits returns a number of so many digits 7.
func digits(many int) api.Num { return api.Num(strings.Repeat("7", many)) }
