package search

import (
	"fmt"
	"math/rand"
	"slices"
	"testing"

	"ringdown/api"
)

// P8.2: the example, templates, and distances over the end of the clock.
func TestCoincide(t *testing.T) {
	last := 1<<30 - 1
	for _, c := range []struct {
		a, b         []api.Trigger
		live, window int
		want         []api.Pair
		loudest      int
	}{
		{exampleA(), exampleB(), 100, 3, pairs(0, 0, 9, 1, 1, 16), 16}, {exampleA(), exampleB(), 100, 2, pairs(0, 0, 9), 9}, {exampleA(), exampleB(), 100, 1, nil, -1}, {exampleA(), exampleB(), 100, 19, pairs(0, 0, 9, 1, 1, 16), 16}, {exampleA(), exampleB(), 100, 20, pairs(0, 0, 9, 0, 2, 11, 1, 1, 16), 16}, {exampleA(), exampleB(), 100, 99, pairs(0, 0, 9, 0, 2, 11, 1, 1, 16), 16}, {exampleA(), exampleB(), 101, 20, pairs(0, 0, 9, 1, 1, 16), 16}, {exampleA(), exampleB(), 101, 21, pairs(0, 0, 9, 0, 2, 11, 1, 1, 16), 16},
		{nil, exampleB(), 100, 99, nil, -1}, {exampleA(), nil, 100, 99, nil, -1}, {nil, nil, 1, 0, nil, -1},
		{triggers(0, 0, 0), triggers(0, 0, 0), 1, 0, pairs(0, 0, 0), 0}, {triggers(0, 0, 0), triggers(0, 0, 1), 1, 0, nil, -1}, {triggers(5, 3, 7), triggers(5, 4, 7), 10, 0, pairs(0, 0, 7), 7}, {triggers(5, 3, 7), triggers(6, 4, 7), 10, 0, nil, -1}, {triggers(0, 3, 7), triggers(9, 4, 7), 10, 1, pairs(0, 0, 7), 7}, {triggers(9, 3, 7), triggers(0, 4, 7), 10, 1, pairs(0, 0, 7), 7}, {triggers(9, 3, 7), triggers(0, 4, 7), 10, 0, nil, -1}, {triggers(9, 3, 7), triggers(0, 4, 7), 11, 1, nil, -1},
		// Half of the clock is as far as it gets.
		{triggers(0, 1, 0), triggers(5, 1, 0), 10, 5, pairs(0, 0, 2), 2}, {triggers(0, 1, 0), triggers(5, 1, 0), 10, 4, nil, -1}, {triggers(0, 1, 0), triggers(6, 1, 0), 10, 4, pairs(0, 0, 2), 2}, {triggers(0, 1, 0), triggers(6, 1, 0), 10, 3, nil, -1}, {triggers(0, 1, 0), triggers(4, 1, 0), 10, 3, nil, -1},
		// By the places of a first, and then by those of b; the loudest need not be the first.
		{triggers(1, 1, 0, 2, 5, 0), triggers(1, 9, 0, 2, 1, 0), 10, 1, pairs(0, 0, 10, 0, 1, 2, 1, 0, 14, 1, 1, 6), 14}, {triggers(1, 1, 0, 9, 5, 0), triggers(0, 9, 0, 8, 1, 0), 10, 1, pairs(0, 0, 10, 1, 0, 14, 1, 1, 6), 14}, {triggers(1, 0, 3, 2, 0, 4), triggers(1, 0, 4, 2, 0, 3), 10, 1, pairs(0, 1, 0, 1, 0, 0), 0},
		{triggers(0, 1<<30, 255), triggers(last, 1<<30, 255), 1 << 30, 1, pairs(0, 0, 1<<31), 1 << 31}, {triggers(0, 1<<30, 255), triggers(last, 1<<30, 255), 1 << 30, 0, nil, -1}, {triggers(0, 1, 0), triggers(1<<29, 1, 0), 1 << 30, 1 << 29, pairs(0, 0, 2), 2}, {triggers(0, 1, 0), triggers(1<<29, 1, 0), 1 << 30, 1<<29 - 1, nil, -1}, {triggers(last, 1, 0), triggers(last, 1, 0), 1 << 30, 0, pairs(0, 0, 2), 2},
	} {
		what := fmt.Sprint(c.a, c.b, c.live, c.window)
		p, e := Coincide(c.a, c.b, c.live, c.window)
		isList(t, what, p, e, c.want, api.OK)
		n, e := Loudest(c.a, c.b, c.live, c.window)
		is(t, what, n, e, c.loudest, api.OK)
	}
}

// P8.2: the example, and times that get just to the end of the clock, or over it.
func TestSlide(t *testing.T) {
	last := 1<<30 - 1
	for _, c := range []struct {
		b       []api.Trigger
		live, d int
		want    []api.Trigger
	}{
		{exampleB(), 100, 20, triggers(10, 6, 0, 32, 4, 0, 67, 7, 1)}, {exampleB(), 100, 0, exampleB()}, {exampleB(), 100, 9, triggers(21, 4, 0, 56, 7, 1, 99, 6, 0)}, {exampleB(), 100, 10, triggers(0, 6, 0, 22, 4, 0, 57, 7, 1)}, {exampleB(), 100, 53, triggers(0, 7, 1, 43, 6, 0, 65, 4, 0)}, {exampleB(), 100, 88, triggers(0, 4, 0, 35, 7, 1, 78, 6, 0)}, {exampleB(), 100, 87, triggers(34, 7, 1, 77, 6, 0, 99, 4, 0)}, {exampleB(), 100, 99, triggers(11, 4, 0, 46, 7, 1, 89, 6, 0)}, {exampleB(), 91, 1, triggers(0, 6, 0, 13, 4, 0, 48, 7, 1)},
		{nil, 100, 20, nil}, {nil, 1, 0, nil}, {triggers(0, 3, 4), 1, 0, triggers(0, 3, 4)}, {triggers(last, 1<<30, 255), 1 << 30, last, triggers(last-1, 1<<30, 255)}, {triggers(0, 0, 0, last, 1, 1), 1 << 30, 1, triggers(0, 1, 1, 1, 0, 0)}, {triggers(0, 0, 0, last, 1, 1), 1 << 30, last, triggers(last-1, 1, 1, last, 0, 0)},
	} {
		l, e := Slide(c.b, c.live, c.d)
		isList(t, fmt.Sprint(c.b, c.live, c.d), l, e, c.want, api.OK)
		hasError(t, fmt.Sprint(l), CheckTriggers(l), api.OK)
	}
}

// P8.2: the example; the first statistic is that without a slide.
func TestStatistics(t *testing.T) {
	for _, c := range []struct {
		a, b               []api.Trigger
		live, window, step int
		want               []int
	}{
		{exampleA(), exampleB(), 100, 3, 20, list(16, 11, -1, -1, -1)}, {exampleA(), exampleB(), 100, 3, 100, list(16)}, {exampleA(), exampleB(), 100, 3, 50, list(16, -1)}, {exampleA(), exampleB(), 100, 99, 25, list(16, 16, 16, 16)},
		{nil, nil, 6, 0, 2, list(-1, -1, -1)}, {nil, exampleB(), 100, 3, 50, list(-1, -1)}, {exampleA(), nil, 100, 3, 50, list(-1, -1)}, {nil, nil, 1, 0, 1, list(-1)},
		// b moves, and not a.
		{triggers(3, 1, 0), triggers(1, 2, 0), 5, 0, 1, list(-1, -1, 3, -1, -1)}, {triggers(1, 1, 0), triggers(3, 2, 0), 5, 0, 1, list(-1, -1, -1, 3, -1)}, {triggers(0, 1<<30, 0), triggers(0, 1<<30, 0), 1 << 30, 0, 1 << 29, list(1<<31, -1)}, {triggers(0, 0, 0), triggers(1<<29, 0, 0), 1 << 30, 0, 1 << 28, list(-1, -1, 0, -1)},
	} {
		l, e := Statistics(c.a, c.b, c.live, c.window, c.step)
		isList(t, fmt.Sprint(c.a, c.b, c.live, c.window, c.step), l, e, c.want, api.OK)
	}
}

// P8.3: the example, and limits that are just enough, or just not.
func TestCandidates(t *testing.T) {
	candidate := func(a, b, loud, n, of int) api.Candidate {
		return api.Candidate{Pair: api.Pair{A: a, B: b, Loud: loud}, Chance: api.Chance{N: n, Of: of}}
	}
	first, second := candidate(0, 0, 9, 2, 5), candidate(1, 1, 16, 1, 5)
	for limit, want := range [][]api.Candidate{nil, {second}, {first, second}, {first, second}, {first, second}, {first, second}} {
		l, e := Candidates(exampleA(), exampleB(), 100, 3, 20, limit)
		isList(t, fmt.Sprint(limit), l, e, want, api.OK)
	}
	// Each slide is as loud as a coincidence without one.
	same := triggers(0, 1, 0, 1, 1, 0, 2, 1, 0)
	for limit := range 4 {
		var want []api.Candidate
		if limit == 3 {
			want = []api.Candidate{candidate(0, 0, 2, 3, 3), candidate(1, 1, 2, 3, 3), candidate(2, 2, 2, 3, 3)}
		}
		l, e := Candidates(same, same, 3, 0, 1, limit)
		isList(t, fmt.Sprint(limit), l, e, want, api.OK)
	}
	for limit := range 3 {
		l, e := Candidates(exampleA(), nil, 100, 3, 50, limit)
		isList(t, "none", l, e, nil, api.OK)
	}
}

// P8.2, P8.3, P8.11: as the definitions say; greater limits and windows take away nothing.
func TestRandomCoincidences(t *testing.T) {
	r := rand.New(rand.NewSource(1))
	loud, rare, over := 0, 0, 0
	for range 3000 {
		live, window, step := randomClock(r, pick(r, 3, 20, 256))
		if r.Intn(2) == 0 {
			// Few coincidences for each slide, but many slides.
			live, window, step = 20+r.Intn(40), r.Intn(3), 1
		}
		a, b := randomTriggers(r, 20, live), randomTriggers(r, 20, live)
		d := r.Intn(live)
		what := fmt.Sprint(a, b, live, window, step, d)
		p, e := Coincide(a, b, live, window)
		isList(t, what, p, e, modelCoincide(a, b, live, window), api.OK)
		n, e := Loudest(a, b, live, window)
		is(t, what, n, e, modelLoudest(a, b, live, window), api.OK)
		slid, e := Slide(b, live, d)
		isList(t, what, slid, e, modelSlide(b, live, d), api.OK)
		statistics, e := Statistics(a, b, live, window, step)
		isList(t, what, statistics, e, modelStatistics(a, b, live, window, step), api.OK)
		limit := r.Intn(live/step + 1)
		c, e := Candidates(a, b, live, window, step, limit)
		isList(t, what, c, e, modelCandidates(a, b, live, window, step, limit), api.OK)
		chance, e := Chance(statistics, r.Intn(12)-2)
		hasError(t, what, e, api.OK)
		if chance.Of != live/step {
			t.Errorf("%s: of %d", what, chance.Of)
		}
		more := must[[]api.Candidate](t)(Candidates(a, b, live, window, step, limit+r.Intn(live/step-limit+1)))
		wider := must[[]api.Pair](t)(Coincide(a, b, live, window+r.Intn(live-window)))
		if !isPart(c, more) || !isPart(p, wider) {
			t.Errorf("%s: something is taken away", what)
		}
		if n > 0 {
			loud++
		}
		if 0 < len(c) && len(c) < len(p) {
			rare++
		}
		if len(p) < len(wider) {
			over++
		}
	}
	if loud < 1000 || rare < 150 || over < 300 {
		t.Errorf("%d with coincidences, %d with some of them, %d with more", loud, rare, over)
	}
}

// isPart says that all elements of a list are in another one, in the same order.
func isPart[T comparable](l, more []T) bool {
	for _, x := range more {
		if len(l) > 0 && l[0] == x {
			l = l[1:]
		}
	}
	return len(l) == 0
}

// P8.2, P8.3: as many triggers and slides as there may be.
func TestMostTriggers(t *testing.T) {
	a, b := fullTriggers(1<<22, 1<<30), fullTriggers(1<<22, 1<<29)
	for i := range b {
		b[i].Time += i
	}
	p, e := Coincide(a, a, 1<<30, 1<<30-1)
	isList(t, "all", p, e, modelCoincide(a, a, 1<<30, 1<<30-1), api.OK)
	is(t, "all", len(p), e, 1<<16, api.OK)
	for _, window := range list(0, 255, 1<<30-1) {
		statistics, e := Statistics(a, b, 1<<30, window, 1<<22)
		isList(t, fmt.Sprint(window), statistics, e, slices.Repeat(list(1<<30+1<<29), 256), api.OK)
		c, e := Candidates(a, b, 1<<30, window, 1<<22, 255)
		isList(t, fmt.Sprint(window), c, e, nil, api.OK)
		c = must[[]api.Candidate](t)(Candidates(a, b, 1<<30, window, 1<<22, 256))
		if len(c) == 0 || c[0].Chance != (api.Chance{N: 256, Of: 256}) {
			t.Errorf("%d: %d candidates", window, len(c))
		}
	}
}

// P8.9: coincidences go both ways, slides can be taken back, and what both do together changes nothing.
func TestSymmetry(t *testing.T) {
	r := rand.New(rand.NewSource(2))
	for range 1000 {
		live, window, step := randomClock(r, 20)
		a, b, d := randomTriggers(r, 20, live), randomTriggers(r, 20, live), r.Intn(live)
		what := fmt.Sprint(a, b, live, window, step, d)
		var exchanged []api.Pair
		for _, p := range must[[]api.Pair](t)(Coincide(b, a, live, window)) {
			exchanged = append(exchanged, api.Pair{A: p.B, B: p.A, Loud: p.Loud})
		}
		slices.SortFunc(exchanged, func(p, q api.Pair) int { return (p.A-q.A)*256 + p.B - q.B })
		p, e := Coincide(a, b, live, window)
		isList(t, what, p, e, exchanged, api.OK)
		slide := func(l []api.Trigger, d int) []api.Trigger { return must[[]api.Trigger](t)(Slide(l, live, d)) }
		isList(t, what, slide(slide(b, d), (live-d)%live), api.OK, b, api.OK)
		statistics, e := Statistics(slide(a, d), slide(b, d), live, window, step)
		isList(t, what, statistics, e, must[[]int](t)(Statistics(a, b, live, window, step)), api.OK)
	}
}

// P8.10: of all slides, at most m have a chance with an N of at most m.
func TestChancesOfSlides(t *testing.T) {
	r := rand.New(rand.NewSource(3))
	for range 500 {
		live, window, step := randomClock(r, 40)
		a, b := randomTriggers(r, 30, live), randomTriggers(r, 30, live)
		statistics := must[[]int](t)(Statistics(a, b, live, window, step))
		many := make([]int, len(statistics)+1)
		for k, s := range statistics {
			n := must[api.Chance](t)(Chance(statistics, s)).N
			for m := n; m < len(many); m++ {
				many[m]++
			}
			// The slide that is taken for the one without a slide has candidates at the limit n, but at no lesser one.
			slid := must[[]api.Trigger](t)(Slide(b, live, k*step))
			for limit, isOne := range map[int]bool{n: s >= 0, n - 1: false} {
				c := must[[]api.Candidate](t)(Candidates(a, slid, live, window, step, limit))
				is(t, fmt.Sprint(a, b, live, window, step, k, limit), len(c) > 0, api.OK, isOne, api.OK)
			}
		}
		for m, n := range many {
			if n > m {
				t.Errorf("%v: %d at %d", statistics, n, m)
			}
		}
	}
}
