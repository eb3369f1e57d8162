package search

import (
	"iter"
	"slices"

	"ringdown/api"
)

// clock is a ring of times: how many they are, how near two of them have to be, and how far one slide is from the next one.
type clock struct{ live, window, step int }

// check returns the first error of a clock, and of lists of triggers that have to fit it.
func (c clock) check(lists ...[]api.Trigger) api.Errno {
	if e := checkTriggers(lists...); e != api.OK {
		return e
	}
	isWrong := func(l []api.Trigger) bool { return !c.fits(l) }
	if !c.isValid() || slices.ContainsFunc(lists, isWrong) {
		return api.ErrSlides
	}
	return api.OK
}

func (c clock) isValid() bool {
	if !isFrom(1, c.live, api.MaxClock) || !isFrom(0, c.window, c.live-1) || !isFrom(1, c.step, c.live) {
		return false
	}
	return c.live%c.step == 0 && c.slides() <= api.MaxSlides
}

func (c clock) fits(l []api.Trigger) bool {
	isLate := func(a api.Trigger) bool { return a.Time >= c.live }
	return !slices.ContainsFunc(l, isLate)
}

func (c clock) slides() int { return c.live / c.step }

func (c clock) distance(s, t int) int {
	n := max(s-t, t-s)
	return min(n, c.live-n)
}

// coincidences yields those of a and b, ordered.
func (c clock) coincidences(a, b []api.Trigger) iter.Seq[api.Pair] {
	return func(yield func(api.Pair) bool) {
		for i, x := range a {
			for k, y := range b {
				isOne := x.Template == y.Template && c.distance(x.Time, y.Time) <= c.window
				if isOne && !yield(api.Pair{A: i, B: k, Loud: x.Loud + y.Loud}) {
					return
				}
			}
		}
	}
}

// loudest returns the greatest Loud of all coincidences, or -1.
func (c clock) loudest(a, b []api.Trigger) int {
	most := -1
	for pair := range c.coincidences(a, b) {
		most = max(most, pair.Loud)
	}
	return most
}

// slide returns triggers slid by d.
func (c clock) slide(l []api.Trigger, d int) []api.Trigger {
	isOver := func(a api.Trigger) bool { return a.Time+d >= c.live }
	first := slices.IndexFunc(l, isOver)
	// Those that get over the end come first then.
	slid := rotate(l, max(first, 0))
	for i := range slid {
		slid[i].Time = (slid[i].Time + d) % c.live
	}
	return slid
}

// rotate returns a list with its first n elements behind the others.
func rotate[T any](l []T, n int) []T { return slices.Concat(l[n:], l[:n]) }

// statistics returns the loudest of a, and of b with each slide.
func (c clock) statistics(a, b []api.Trigger) []int {
	var list []int
	for k := range c.slides() {
		list = append(list, c.loudest(a, c.slide(b, k*c.step)))
	}
	return list
}

// judged yields the coincidences of a and b, ordered, each with its chance.
func (c clock) judged(a, b []api.Trigger) iter.Seq[api.Candidate] {
	statistics := c.statistics(a, b)
	return func(yield func(api.Candidate) bool) {
		for pair := range c.coincidences(a, b) {
			if !yield(api.Candidate{Pair: pair, Chance: chance(statistics, pair.Loud)}) {
				return
			}
		}
	}
}

// chance returns that of x among statistics.
func chance(statistics []int, x int) api.Chance {
	n := 0
	for _, s := range statistics {
		if s >= x {
			n++
		}
	}
	return api.Chance{N: max(n, 1), Of: len(statistics)}
}

// only yields those elements that are kept.
func only[T any](all iter.Seq[T], isKept func(T) bool) iter.Seq[T] {
	return func(yield func(T) bool) {
		for x := range all {
			if isKept(x) && !yield(x) {
				return
			}
		}
	}
}
