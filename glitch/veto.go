package glitch

import (
	"cmp"
	"slices"

	"ringdown/api"
)

// CheckVetoes returns ErrVeto unless these are vetoes.
func CheckVetoes(l []api.Veto) api.Errno {
	if !areVetoes(l) {
		return api.ErrVeto
	}
	return api.OK
}

// Held returns the stretches of a span at which a veto holds.
func Held(v api.Veto, span int) ([]api.Segment, api.Errno) {
	if e := checkSpan([]api.Veto{v}, span); e != api.OK {
		return nil, e
	}
	return held(v.Segments, span), api.OK
}

// Dead returns the dead time of vetoes.
func Dead(l []api.Veto, span int) (int, api.Errno) {
	if e := checkSpan(l, span); e != api.OK {
		return 0, e
	}
	return dead(l, span), api.OK
}

// Passed returns the times that vetoes do not catch.
func Passed(l []api.Veto, times []int) ([]int, api.Errno) {
	switch {
	case !areVetoes(l):
		return nil, api.ErrVeto
	case !areTimes(times):
		return nil, api.ErrMoments
	}
	return passed(l, times), api.OK
}

// Rank returns the ranking of vetoes.
func Rank(l []api.Veto, times []int, span int) ([]api.Ranked, api.Errno) {
	switch e := checkSpan(l, span); {
	case e != api.OK:
		return nil, e
	case !areTimes(times):
		return nil, api.ErrMoments
	}
	return ranking(l, times, span), api.OK
}

// checkSpan returns the first error of vetoes and a span.
func checkSpan(l []api.Veto, span int) api.Errno {
	switch {
	case !areVetoes(l):
		return api.ErrVeto
	case !isSpan(span):
		return api.ErrRange
	}
	return api.OK
}

// cut returns what is left of the elements of a list.
func cut[T any](list []T, one func(T) (left T, isSome bool)) []T {
	var kept []T
	for _, x := range list {
		if left, isSome := one(x); isSome {
			kept = append(kept, left)
		}
	}
	return kept
}

// held returns the stretches of a span that segments cover.
func held(segments []api.Segment, span int) []api.Segment {
	left := cut(segments, func(s api.Segment) (api.Segment, bool) {
		s.To = min(s.To, span)
		return s, s.From < s.To
	})
	slices.SortFunc(left, func(a, b api.Segment) int { return cmp.Compare(a.From, b.From) })
	var stretches []api.Segment
	for _, s := range left {
		last := len(stretches) - 1
		if last >= 0 && s.From <= stretches[last].To {
			stretches[last].To = max(stretches[last].To, s.To)
		} else {
			stretches = append(stretches, s)
		}
	}
	return stretches
}

func dead(l []api.Veto, span int) int {
	var segments []api.Segment
	for _, v := range l {
		segments = append(segments, v.Segments...)
	}
	sum := 0
	for _, s := range held(segments, span) {
		sum += s.To - s.From
	}
	return sum
}

func passed(l []api.Veto, times []int) []int {
	return cut(times, func(t int) (int, bool) {
		holds := func(v api.Veto) bool { return holdsAt(v, t) }
		return t, !slices.ContainsFunc(l, holds)
	})
}

func holdsAt(v api.Veto, time int) bool {
	return slices.ContainsFunc(v.Segments, func(s api.Segment) bool { return s.From <= time && time < s.To })
}

func ranking(l []api.Veto, times []int, span int) []api.Ranked {
	var list []api.Ranked
	var before []api.Veto
taking:
	for {
		switch best := bestOf(l, before, passed(before, times), span); best.Caught {
		case 0:
			break taking
		default:
			list = append(list, best)
			before = append(before, l[best.Veto])
		}
	}
	return list
}

// bestOf returns the best one of l behind some others, which leave these times; it catches none if there is none to take. (The others are looked at too: they catch nothing besides.)
func bestOf(l, before []api.Veto, left []int, span int) api.Ranked {
	var best api.Ranked
	for i, v := range l {
		with := append(slices.Clone(before), v)
		r := api.Ranked{
			Veto:   i,
			Caught: len(left) - len(passed(l[i:i+1], left)),
			Dead:   dead(with, span) - dead(before, span),
		}
		if isBetter(r, best) {
			best = r
		}
	}
	return best
}

// isBetter compares quotients by products, so that nothing is divided by 0; one that catches nothing is never better.
func isBetter(a, b api.Ranked) bool {
	return cmp.Or(cmp.Compare(a.Caught*b.Dead, b.Caught*a.Dead), cmp.Compare(a.Caught, b.Caught)) > 0
}
