package search

import (
	"fmt"
	"slices"
	"testing"

	"ringdown/api"
)

func validTriggers() [][]api.Trigger {
	return [][]api.Trigger{
		nil, {}, exampleA(), exampleB(), triggers(0, 0, 0), triggers(1<<30-1, 1<<30, 255), triggers(0, 1, 2, 1, 1, 2), triggers(0, 1<<30, 255, 1<<30-2, 0, 0, 1<<30-1, 7, 7),
		fullTriggers(1, 0), fullTriggers(1<<22, 1<<30),
	}
}

func wrongTriggers() [][]api.Trigger {
	l := [][]api.Trigger{
		triggers(5, 1, 1, 5, 1, 1), triggers(5, 1, 1, 4, 1, 1), triggers(1, 1, 1, 2, 1, 1, 0, 1, 1), triggers(1, 1, 1, 2, 1, 1, 2, 2, 2), triggers(0, 1, 1, 0, 1, 1),
		append(fullTriggers(1, 0), triggers(256, 0, 0)...), fullTriggers(1<<22+1<<15, 0), make([]api.Trigger, 100000),
	}
	for _, n := range list(-1, 1<<30+1, 1<<31, 1<<32, 1<<62, 1<<63-1, -1<<63) {
		l = append(l, triggers(n, 0, 0), triggers(0, n, 0), triggers(0, 0, n), triggers(0, 0, 0, n, 0, 0), triggers(n, 0, 0, 1<<29, 0, 0), triggers(3, 4, 5, 6, n, 8, 9, 10, 11), triggers(3, 4, 5, 6, 7, n, 9, 10, 11), triggers(3, 4, 5, 6, 7, 8, 9, n, 11), triggers(3, 4, 5, 6, 7, 8, 9, 10, n))
	}
	return append(l, triggers(1<<30, 0, 0), triggers(0, 0, 256), triggers(0, 1, 1, 1<<30, 1, 1))
}

// P8.1: which lists are triggers.
func TestCheckTriggers(t *testing.T) {
	for _, l := range validTriggers() {
		hasError(t, fmt.Sprint(l), CheckTriggers(l), api.OK)
	}
	for _, l := range wrongTriggers() {
		hasError(t, fmt.Sprint(l[:min(5, len(l))]), CheckTriggers(l), api.ErrTriggers)
	}
}

// settings are the arguments of functions with a clock.
type settings struct{ live, window, step, d, limit int }

// errorsOf checks the errors of all functions with a clock.
func errorsOf(t *testing.T, a, b []api.Trigger, s settings, pair, slide, statistics, candidates api.Errno) {
	t.Helper()
	what := fmt.Sprint(len(a), len(b), s)
	p, e := Coincide(a, b, s.live, s.window)
	checkError(t, "Coincide "+what, len(p), e, pair)
	n, e := Loudest(a, b, s.live, s.window)
	checkError(t, "Loudest "+what, n, e, pair)
	l, e := Slide(b, s.live, s.d)
	checkError(t, "Slide "+what, len(l), e, slide)
	m, e := Statistics(a, b, s.live, s.window, s.step)
	checkError(t, "Statistics "+what, len(m), e, statistics)
	c, e := Candidates(a, b, s.live, s.window, s.step, s.limit)
	checkError(t, "Candidates "+what, len(c), e, candidates)
}

// checkError checks an error, with which there is no other result.
func checkError(t *testing.T, what string, result int, e, want api.Errno) {
	t.Helper()
	if e != want || e != api.OK && result != 0 {
		t.Errorf("%s: %d, %d, not %d", what, result, e, want)
	}
}

// P8.1: ErrTriggers comes first, for a and for b.
func TestErrorsOfTriggers(t *testing.T) {
	const wrong = api.ErrTriggers
	for _, s := range []settings{{100, 3, 20, 0, 0}, {0, 0, 0, 0, 0}, {100, -1, 7, -1, -1}, {2, 100, 3, 7, 9}, {1 << 30, 0, 1 << 30, 1 << 62, 1 << 62}} {
		for _, l := range wrongTriggers() {
			errorsOf(t, exampleA(), l, s, wrong, wrong, wrong, wrong)
			errorsOf(t, nil, l, s, wrong, wrong, wrong, wrong)
			errorsOf(t, l, l, s, wrong, wrong, wrong, wrong)
			_, slide := Slide(exampleB(), s.live, s.d)
			errorsOf(t, l, exampleB(), s, wrong, slide, wrong, wrong)
		}
	}
}

// P8.1: ErrSlides comes next, also if triggers do not fit the clock; what a function does not have is not wrong.
func TestErrorsOfClocks(t *testing.T) {
	const ok, slides = api.OK, api.ErrSlides
	for _, l := range [][]api.Trigger{nil, triggers(0, 1, 2)} {
		for _, d := range list(0, -1, 1<<62) {
			for _, n := range list(0, -1, -100, 1<<30+1, 1<<31, 1<<32, 1<<62, 1<<63-1, -1<<63) {
				errorsOf(t, l, l, settings{n, 0, 1, d, d}, slides, slides, slides, slides)
				errorsOf(t, l, l, settings{n, 0, n, d, d}, slides, slides, slides, slides)
				errorsOf(t, l, l, settings{n, -1, 0, d, d}, slides, slides, slides, slides)
			}
		}
		for _, n := range list(-1, 100, 101, 1<<30, 1<<62, 1<<63-1, -1<<63) {
			errorsOf(t, l, l, settings{100, n, 20, 0, 0}, slides, ok, slides, slides)
			errorsOf(t, l, l, settings{100, n, 20, 99, -1}, slides, ok, slides, slides)
			errorsOf(t, l, l, settings{100, n, 7, 99, 99}, slides, ok, slides, slides)
		}
		for _, n := range list(0, -1, -20, 3, 99, 101, 200, 1<<30, 1<<62, 1<<63-1, -1<<63) {
			errorsOf(t, l, l, settings{100, 3, n, 0, 0}, ok, ok, slides, slides)
			errorsOf(t, l, l, settings{100, 99, n, 1, -1}, ok, ok, slides, slides)
		}
		for _, s := range []settings{{257, 0, 1, 0, 0}, {514, 0, 2, 0, 300}, {1 << 30, 0, 1, 0, 1}, {1 << 30, 0, 1 << 21, 0, 1}, {257 << 20, 0, 1 << 20, 0, 257}} {
			errorsOf(t, l, l, s, ok, ok, slides, slides)
		}
		for _, s := range []settings{{1, 0, 1, 0, 0}, {1, 0, 1, 0, 1}, {256, 0, 1, 255, 256}, {512, 511, 2, 511, 256}, {1 << 30, 1<<30 - 1, 1 << 30, 1<<30 - 1, 1}, {1 << 30, 0, 1 << 22, 0, 256}, {100, 99, 100, 0, 1}, {100, 0, 1, 99, 100}, {7, 6, 7, 6, 0}} {
			errorsOf(t, l, l, s, ok, ok, ok, ok)
		}
	}
	for _, live := range list(1, 20, 89) {
		errorsOf(t, nil, exampleB(), settings{live, 0, live, 0, 0}, slides, slides, slides, slides)
		errorsOf(t, nil, exampleB(), settings{live, 0, live, -1, -1}, slides, slides, slides, slides)
	}
	errorsOf(t, exampleB(), nil, settings{90, 0, 90, 0, 0}, slides, ok, slides, slides)
	errorsOf(t, nil, exampleB(), settings{90, 0, 90, 0, 0}, slides, slides, slides, slides)
	errorsOf(t, exampleB(), exampleB(), settings{91, 0, 91, 90, 1}, ok, ok, ok, ok)
	last := triggers(1<<30-1, 0, 0)
	errorsOf(t, last, last, settings{1 << 30, 0, 1 << 30, 0, 1}, ok, ok, ok, ok)
	errorsOf(t, last, last, settings{1<<30 - 1, 0, 1<<30 - 1, 0, 1}, slides, slides, slides, slides)
}

// P8.2, P8.3: ErrRange comes last.
func TestErrorsOfRanges(t *testing.T) {
	const ok, wrong = api.OK, api.ErrRange
	for _, l := range [][]api.Trigger{nil, exampleB()} {
		for _, n := range list(-1, 100, 101, 1<<30, 1<<62, 1<<63-1, -1<<63) {
			errorsOf(t, l, l, settings{100, 3, 20, n, 0}, ok, wrong, ok, ok)
		}
		for _, n := range list(-1, 6, 20, 100, 1<<30, 1<<62, 1<<63-1, -1<<63) {
			errorsOf(t, l, l, settings{100, 3, 20, 0, n}, ok, ok, ok, wrong)
		}
		for _, n := range list(0, 1, 5) {
			errorsOf(t, l, l, settings{100, 3, 20, 99, n}, ok, ok, ok, ok)
		}
		errorsOf(t, l, l, settings{100, 3, 100, 0, 2}, ok, ok, ok, wrong)
		errorsOf(t, l, l, settings{256, 3, 1, 0, 257}, ok, ok, ok, wrong)
	}
}

// P8.3: the example, numbers of any size, and no or too many statistics.
func TestChance(t *testing.T) {
	many := slices.Repeat(list(1, 2), 128)
	chance := func(n, of int) api.Chance { return api.Chance{N: n, Of: of} }
	for _, c := range []struct {
		statistics []int
		x          int
		want       api.Chance
		e          api.Errno
	}{
		{list(16, 11, -1, -1, -1), 16, chance(1, 5), api.OK}, {list(16, 11, -1, -1, -1), 9, chance(2, 5), api.OK}, {list(16, 11, -1, -1, -1), 11, chance(2, 5), api.OK}, {list(16, 11, -1, -1, -1), 12, chance(1, 5), api.OK}, {list(16, 11, -1, -1, -1), 17, chance(1, 5), api.OK}, {list(16, 11, -1, -1, -1), 0, chance(2, 5), api.OK}, {list(16, 11, -1, -1, -1), -1, chance(5, 5), api.OK}, {list(-1, -1, 16, -1, 16), 16, chance(2, 5), api.OK},
		{list(0), 0, chance(1, 1), api.OK}, {list(0), 1, chance(1, 1), api.OK}, {list(0), -1, chance(1, 1), api.OK}, {list(-5, -4), -4, chance(1, 2), api.OK}, {list(-5, -4), -5, chance(2, 2), api.OK},
		{list(1<<63-1, -1<<63, 0), 1<<63 - 1, chance(1, 3), api.OK}, {list(1<<63-1, -1<<63, 0), -1 << 63, chance(3, 3), api.OK}, {list(1<<62, -1<<63, 0), 1<<63 - 1, chance(1, 3), api.OK}, {list(1<<62, 1<<63-1, -1<<63), 1 << 62, chance(2, 3), api.OK},
		{many, 1, chance(256, 256), api.OK}, {many, 2, chance(128, 256), api.OK}, {many, 3, chance(1, 256), api.OK}, {many[1:], 2, chance(128, 255), api.OK},
		{nil, 1, chance(0, 0), api.ErrArg}, {list(), -1, chance(0, 0), api.ErrArg}, {append(many, 3), 3, chance(0, 0), api.ErrArg}, {make([]int, 100000), 0, chance(0, 0), api.ErrArg},
	} {
		got, e := Chance(c.statistics, c.x)
		is(t, fmt.Sprint(c.statistics[:min(6, len(c.statistics))], c.x), got, e, c.want, c.e)
	}
}
