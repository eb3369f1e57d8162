package record

import (
	"fmt"
	"math/rand"
	"slices"
	"testing"

	"ringdown/api"
)

func book(channels ...api.Channel) []api.Channel { return channels }

func channel(name string, rate, bits int) api.Channel {
	return api.Channel{Name: name, Rate: rate, Bits: bits}
}

func frame(start int, samples ...[]int) api.Frame {
	return api.Frame{Start: start, Samples: samples}
}

func list(n ...int) []int { return n }

// example is the book of the chapter's examples, and exampleFrame its frame.
func example() []api.Channel { return book(channel("err", 4, 8), channel("aux", 1, 4)) }

func exampleFrame() api.Frame { return frame(1, list(0, 1, 1, 2), list(-1)) }

// exampleCode is the code of exampleFrame as the chapter has it.
func exampleCode() []byte {
	return []byte{0xA5, 0x5A, 0x00, 0x07, 0x00, 0x00, 0x00, 0x01, 0x40, 0xCC, 0x02, 0x59, 0x02, 0xC7}
}

// startingAt returns frames of the example at some seconds, with different samples.
func startingAt(starts ...int) []api.Frame {
	var l []api.Frame
	for _, s := range starts {
		l = append(l, frame(s, list(s%100, -s%100, 5, -128), list(s%8)))
	}
	return l
}

// largest is the greatest book.
func largest() []api.Channel {
	var b []api.Channel
	for i := range api.MaxChannels {
		b = append(b, channel(fmt.Sprint("c", i), api.MaxRate, 24))
	}
	return b
}

func sameFrame(f, g api.Frame) bool {
	return f.Start == g.Start && slices.EqualFunc(f.Samples, g.Samples, slices.Equal[[]int])
}

func cloneFrame(f api.Frame) api.Frame {
	g := api.Frame{Start: f.Start}
	for _, samples := range f.Samples {
		g.Samples = append(g.Samples, slices.Clone(samples))
	}
	return g
}

func cloneFrames(l []api.Frame) []api.Frame {
	var clones []api.Frame
	for _, f := range l {
		clones = append(clones, cloneFrame(f))
	}
	return clones
}

// must returns a result of a call that has no error.
func must[T any](t *testing.T) func(T, api.Errno) T {
	return func(a T, e api.Errno) T {
		t.Helper()
		if e != api.OK {
			t.Fatalf("error %d", e)
		}
		return a
	}
}

// is checks a result that can be compared; with an error it is the zero value.
func is[T comparable](t *testing.T, what string, got T, e api.Errno, want T, wantError api.Errno) {
	t.Helper()
	if got != want || e != wantError {
		t.Errorf("%s: %v, %d, not %v, %d", what, got, e, want, wantError)
	}
}

func hasError(t *testing.T, what string, e, want api.Errno) {
	t.Helper()
	if e != want {
		t.Errorf("%s: %d, not %d", what, e, want)
	}
}

// isList checks a list; with an error it has no elements.
func isList[T comparable](t *testing.T, what string, got []T, e api.Errno, want []T, wantError api.Errno) {
	t.Helper()
	if !slices.Equal(got, want) || e != wantError {
		t.Errorf("%s: %v, %d, not %v, %d", what, got, e, want, wantError)
	}
}

func hasFrame(t *testing.T, what string, got api.Frame, e api.Errno, want api.Frame, wantError api.Errno) {
	t.Helper()
	if !sameFrame(got, want) || e != wantError {
		t.Errorf("%s: %v, %d, not %v, %d", what, got, e, want, wantError)
	}
}

func hasFrames(t *testing.T, what string, got []api.Frame, e api.Errno, want []api.Frame, wantError api.Errno) {
	t.Helper()
	if !slices.EqualFunc(got, want, sameFrame) || e != wantError {
		t.Errorf("%s: %v, %d, not %v, %d", what, got, e, want, wantError)
	}
}

func pick[T any](r *rand.Rand, l ...T) T { return l[r.Intn(len(l))] }

func randomBook(r *rand.Rand, mostChannels, mostRate int) []api.Channel {
	var b []api.Channel
	for i := range r.Intn(mostChannels) + 1 {
		rate := 1
		for rate < mostRate && r.Intn(4) > 0 {
			rate *= 2
		}
		b = append(b, channel(fmt.Sprint("c", i), rate, r.Intn(23)+2))
	}
	return b
}

// randomSamples are as noise, or follow a polynomial, with a spike here and there.
func randomSamples(r *rand.Rand, c api.Channel) []int {
	limit := 1 << (c.Bits - 1)
	size := 1 << r.Intn(c.Bits)
	slopes := list(r.Intn(2*size)-size, r.Intn(size)/4, r.Intn(size)/32, r.Intn(3)-1)
	for i := range slopes {
		if r.Intn(3) == 0 {
			clear(slopes[i:])
		}
	}
	noise := pick(r, 1, 1, 2, 5, size)
	samples := make([]int, c.Rate)
	for t := range samples {
		x := slopes[0] + slopes[1]*t + slopes[2]*t*t + slopes[3]*t*t*t + r.Intn(noise)
		if r.Intn(60) == 0 {
			x = r.Intn(2*limit) - limit
		}
		samples[t] = min(max(x, -limit), limit-1)
	}
	return samples
}

func randomFrame(r *rand.Rand, b []api.Channel, start int) api.Frame {
	f := api.Frame{Start: start}
	for _, c := range b {
		f.Samples = append(f.Samples, randomSamples(r, c))
	}
	return f
}

// randomRecord has so many frames; some of its seconds follow each other.
func randomRecord(r *rand.Rand, b []api.Channel, many int) []api.Frame {
	var l []api.Frame
	start := r.Intn(3)
	for range many {
		l = append(l, randomFrame(r, b, start))
		start += pick(r, 1, 1, 2, 1+r.Intn(5), 1+r.Intn(1000))
	}
	return l
}
