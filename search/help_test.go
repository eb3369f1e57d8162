package search

import (
	"math/rand"
	"slices"
	"testing"

	"ringdown/api"
)

func list(n ...int) []int { return n }

func lists(l ...[]int) [][]int { return l }

// triggers has the time, the loudness and the template of one trigger after those of another one.
func triggers(n ...int) []api.Trigger {
	var l []api.Trigger
	for three := range slices.Chunk(n, 3) {
		l = append(l, api.Trigger{Time: three[0], Loud: three[1], Template: three[2]})
	}
	return l
}

// pairs has the indices and the loudness of one coincidence after those of another one.
func pairs(n ...int) []api.Pair {
	var l []api.Pair
	for three := range slices.Chunk(n, 3) {
		l = append(l, api.Pair{A: three[0], B: three[1], Loud: three[2]})
	}
	return l
}

// burstList has the numbers of one burst after those of another one.
func burstList(n ...int) []api.Burst {
	var l []api.Burst
	for three := range slices.Chunk(n, 3) {
		l = append(l, api.Burst{From: three[0], To: three[1], Peak: three[2]})
	}
	return l
}

func wave(at, gain int, samples ...int) api.Wave {
	return api.Wave{At: at, Gain: gain, Samples: samples}
}

func waves(l ...api.Wave) []api.Wave { return l }

// exampleA and exampleB are the triggers of the chapter's examples.
func exampleA() []api.Trigger { return triggers(10, 5, 0, 50, 9, 1) }

func exampleB() []api.Trigger { return triggers(12, 4, 0, 47, 7, 1, 90, 6, 0) }

// must returns a result of a call that has no error.
func must[T any](t *testing.T) func(T, api.Errno) T {
	return func(a T, e api.Errno) T {
		t.Helper()
		if e != api.OK {
			t.Fatalf("error %d", e)
		}
		return a
	}
}

// is checks a result that can be compared; with an error it is the zero value.
func is[T comparable](t *testing.T, what string, got T, e api.Errno, want T, wantError api.Errno) {
	t.Helper()
	if got != want || e != wantError {
		t.Errorf("%s: %v, %d, not %v, %d", what, got, e, want, wantError)
	}
}

func hasError(t *testing.T, what string, e, want api.Errno) {
	t.Helper()
	if e != want {
		t.Errorf("%s: %d, not %d", what, e, want)
	}
}

// isList checks a list; with an error it has no elements.
func isList[T comparable](t *testing.T, what string, got []T, e api.Errno, want []T, wantError api.Errno) {
	t.Helper()
	if !slices.Equal(got, want) || e != wantError {
		t.Errorf("%s: %v, %d, not %v, %d", what, got, e, want, wantError)
	}
}

func pick[T any](r *rand.Rand, l ...T) T { return l[r.Intn(len(l))] }

func randomNumber(r *rand.Rand, most int) int { return r.Intn(2*most+1) - most }

func randomList(r *rand.Rand, many, most int) []int {
	l := make([]int, many)
	for i := range l {
		l[i] = randomNumber(r, most)
	}
	return l
}

// randomTimes are at most so many, increasing, each before an end.
func randomTimes(r *rand.Rand, most, end int) []int {
	var l []int
	for range r.Intn(most + 1) {
		if end > 0 {
			l = append(l, r.Intn(end))
		}
	}
	slices.Sort(l)
	return slices.Compact(l)
}

// randomTriggers are at most so many, each before a time.
func randomTriggers(r *rand.Rand, most, end int) []api.Trigger {
	loud, templates := pick(r, 1, 5, 100, 100, api.MaxStat), pick(r, 1, 1, 2, 4, 256)
	var l []api.Trigger
	for _, at := range randomTimes(r, most, end) {
		l = append(l, api.Trigger{Time: at, Loud: r.Intn(loud + 1), Template: r.Intn(templates)})
	}
	return l
}

// randomClock has at most so many slides.
func randomClock(r *rand.Rand, most int) (live, window, step int) {
	step = pick(r, 1, 1, 2, 3, 7, 1+r.Intn(100), 1<<20)
	live = step * (1 + r.Intn(most))
	window = pick(r, 0, min(1, live-1), min(3, live-1), r.Intn(live), live-1)
	return live, window, step
}

// fullTriggers are as many as there may be, all of one template, at a distance from each other.
func fullTriggers(every, loud int) []api.Trigger {
	var l []api.Trigger
	for i := range api.MaxTriggers {
		l = append(l, api.Trigger{Time: i * every, Loud: loud})
	}
	return l
}

// randomRecord has at most so many samples; some of them are much louder than the others.
func randomRecord(r *rand.Rand, most int) []int {
	x := randomList(r, r.Intn(most+1), pick(r, 0, 1, 3, 100))
	for range r.Intn(4) {
		if len(x) > 0 {
			x[r.Intn(len(x))] = randomNumber(r, pick(r, 5, 300, api.MaxPulse))
		}
	}
	return x
}

// randomWaves are at most so many injections for a record of so many samples.
func randomWaves(r *rand.Rand, samples, most int) []api.Wave {
	gain, height, longest := pick(r, 1, 64), pick(r, 1, 256), pick(r, 3, 64)
	var l []api.Wave
	for _, at := range randomTimes(r, most, samples) {
		many := 1 + r.Intn(min(longest, samples-at))
		l = append(l, wave(at, randomNumber(r, gain), randomList(r, many, height)...))
	}
	return l
}

func copyWaves(l []api.Wave) []api.Wave {
	l = slices.Clone(l)
	for i := range l {
		l[i].Samples = slices.Clone(l[i].Samples)
	}
	return l
}
