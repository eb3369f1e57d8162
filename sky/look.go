package sky

import "ringdown/api"

// CheckScopes returns ErrScope unless these are telescopes.
func CheckScopes(l []api.Scope) api.Errno {
	if !areScopes(l) {
		return api.ErrScope
	}
	return api.OK
}

// Sees returns the cells that a telescope sees in a turn.
func Sees(l []api.Scope, turn, scope, n int) ([]int, api.Errno) {
	telescopes, e := pointed(l, n)
	switch {
	case e != api.OK:
		return nil, e
	case !isTurnOf(telescopes, turn, scope):
		return nil, api.ErrScope
	}
	return telescopes[scope].sees(turn), api.OK
}

// Covers returns the cells that a look covers.
func Covers(l []api.Scope, n int, look api.Look) ([]int, api.Errno) {
	telescopes, e := pointed(l, n)
	switch {
	case e != api.OK:
		return nil, e
	case !isPlan(telescopes, []api.Look{look}):
		return nil, api.ErrScope
	}
	return telescopes[look.Scope].covers(look.Turn, look.Cell), api.OK
}

// Gain returns what a plan gains.
func Gain(l []api.Scope, n int, weights, cells []int, plan []api.Look) (int, api.Errno) {
	telescopes, e := weighed(l, n, weights, cells)
	switch {
	case e != api.OK:
		return 0, e
	case !isPlan(telescopes, plan):
		return 0, api.ErrScope
	}
	return gainOf(telescopes, plan, worthOf(weights, cells)), api.OK
}

// Plan returns the planned looks, and what they gain.
func Plan(l []api.Scope, n int, weights, cells []int) (plan []api.Look, gain int, e api.Errno) {
	telescopes, e := weighed(l, n, weights, cells)
	if e != api.OK {
		return nil, 0, e
	}
	plan, gain = planned(telescopes, len(l[0].Zeniths), worthOf(weights, cells))
	return plan, gain, api.OK
}

// pointed returns telescopes for a grid, or the first error of both.
func pointed(l []api.Scope, n int) ([]telescope, api.Errno) {
	if e := CheckScopes(l); e != api.OK {
		return nil, e
	}
	if e := checkGrid(n); e != api.OK {
		return nil, e
	}
	return telescopesOf(l, grid(n)), api.OK
}

// weighed returns telescopes for a grid, or the first error of both, and of weights and some cells.
func weighed(l []api.Scope, n int, weights, cells []int) ([]telescope, api.Errno) {
	telescopes, e := pointed(l, n)
	if e == api.OK {
		e = checkWeighed(n, weights, cells)
	}
	if e != api.OK {
		return nil, e
	}
	return telescopes, api.OK
}
