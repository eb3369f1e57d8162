package lock

import (
	"fmt"
	"math/rand"
	"slices"
	"testing"

	"ringdown/api"
)

func win(guard int) api.Event { return api.Event{Guard: guard, Kind: api.EventWin} }

func fail(guard int) api.Event { return api.Event{Guard: guard, Kind: api.EventFail} }

func lost(guard int) api.Event { return api.Event{Guard: guard, Kind: api.EventLost} }

func events(l ...api.Event) []api.Event { return l }

func rungAs(name, next, back string, tries, minutes int, needs ...api.Need) api.Rung {
	return api.Rung{Name: name, Next: next, Back: back, Tries: tries, Minutes: minutes, Needs: needs}
}

// closing returns the rung with loops that it closes, each with its index.
func closing(r api.Rung, gains map[int]api.Num) api.Rung {
	for loop := range api.MaxLoops {
		if gain, ok := gains[loop]; ok {
			r.Loops = append(r.Loops, api.Closing{Loop: loop, Gain: gain})
		}
	}
	return r
}

func needs(guard int, rungs ...string) api.Need { return api.Need{Guard: guard, Rungs: rungs} }

func guard(name string, rungs ...api.Rung) api.Guard { return api.Guard{Name: name, Rungs: rungs} }

func systemWith(guards ...api.Guard) api.System { return api.System{Guards: guards} }

// example is the system of the chapter's examples.
func example() api.System {
	return systemWith(
		guard("arm", rungAs("down", "green", "down", 1, 1), rungAs("green", "held", "down", 2, 5), rungAs("held", "", "green", 1, 10)),
		guard("power", rungAs("low", "full", "low", 1, 2), rungAs("full", "", "low", 1, 3, needs(0, "held"))),
	)
}

// largest has as many guards, rungs and tries as there may be, and no needs.
func largest() api.System {
	var s api.System
	for i := range api.MaxGuards {
		g := guard(fmt.Sprint("g", i))
		for k := range api.MaxRungs {
			r := rungAs(fmt.Sprint("r", k), fmt.Sprint("r", k+1), fmt.Sprint("r", max(k-1, 0)), api.MaxTries, api.MaxStay)
			if k == api.MaxRungs-1 {
				r.Next = ""
			}
			g.Rungs = append(g.Rungs, r)
		}
		s.Guards = append(s.Guards, g)
	}
	return s
}

// at is a status without failed tries.
func at(rungs ...int) api.Status { return api.Status{At: rungs, Failed: make([]int, len(rungs))} }

func statusWith(at, failed []int) api.Status { return api.Status{At: at, Failed: failed} }

func sameStatus(x, y api.Status) bool {
	return slices.Equal(x.At, y.At) && slices.Equal(x.Failed, y.Failed)
}

func cloneSystem(s api.System) api.System {
	var t api.System
	for _, g := range s.Guards {
		h := api.Guard{Name: g.Name}
		for _, r := range g.Rungs {
			loops, list := slices.Clone(r.Loops), slices.Clone(r.Needs)
			for i := range list {
				list[i].Rungs = slices.Clone(list[i].Rungs)
			}
			r.Loops, r.Needs = loops, list
			h.Rungs = append(h.Rungs, r)
		}
		t.Guards = append(t.Guards, h)
	}
	return t
}

func cloneStatus(x api.Status) api.Status {
	return api.Status{At: slices.Clone(x.At), Failed: slices.Clone(x.Failed)}
}

// must returns a result of a call that has no error.
func must[T any](t *testing.T) func(T, api.Errno) T {
	return func(a T, e api.Errno) T {
		t.Helper()
		if e != api.OK {
			t.Fatalf("error %d", e)
		}
		return a
	}
}

// is checks a result that can be compared; with an error it is the zero value.
func is[T comparable](t *testing.T, what string, got T, e api.Errno, want T, wantError api.Errno) {
	t.Helper()
	if got != want || e != wantError {
		t.Errorf("%s: %v, %d, not %v, %d", what, got, e, want, wantError)
	}
}

// isList checks a list; with an error it has no elements.
func isList[T comparable](t *testing.T, what string, got []T, e api.Errno, want []T, wantError api.Errno) {
	t.Helper()
	if !slices.Equal(got, want) || e != wantError {
		t.Errorf("%s: %v, %d, not %v, %d", what, got, e, want, wantError)
	}
}

func isStatus(t *testing.T, what string, got api.Status, e api.Errno, want api.Status, wantError api.Errno) {
	t.Helper()
	if !sameStatus(got, want) || e != wantError {
		t.Errorf("%s: %v, %d, not %v, %d", what, got, e, want, wantError)
	}
}

func isStatuses(t *testing.T, what string, got []api.Status, e api.Errno, want []api.Status, wantError api.Errno) {
	t.Helper()
	if !slices.EqualFunc(got, want, sameStatus) || e != wantError {
		t.Errorf("%s: %v, %d, not %v, %d", what, got, e, want, wantError)
	}
}

func pick[T any](r *rand.Rand, l ...T) T { return l[r.Intn(len(l))] }

// randomSystem is a valid system with at most so many rungs a guard and tries a rung; its loops are from 0 to 2.
func randomSystem(r *rand.Rand, mostRungs, mostTries int) api.System {
	var s api.System
	for i := range r.Intn(api.MaxGuards) + 1 {
		g := guard(fmt.Sprint("guard", i))
		many := r.Intn(mostRungs) + 1
		order := r.Perm(many)
		for k := range many {
			rung := rungAs(fmt.Sprint("rung", k), "", "rung0", r.Intn(mostTries)+1, r.Intn(api.MaxStay)+1)
			if place := slices.Index(order, k); r.Intn(5) > 0 && place+1 < many {
				rung.Next = fmt.Sprint("rung", order[place+1+r.Intn(many-place-1)])
			}
			if k > 0 {
				rung.Back = fmt.Sprint("rung", r.Intn(k))
				rung.Needs = randomNeeds(r, s.Guards)
			}
			for loop := range 3 {
				if r.Intn(2) == 0 {
					rung.Loops = append(rung.Loops, api.Closing{Loop: loop, Gain: pick[api.Num](r, "-2", "-1/2", "0", "1/2", "1", "3/2", "5/2")})
				}
			}
			g.Rungs = append(g.Rungs, rung)
		}
		s.Guards = append(s.Guards, g)
	}
	return s
}

func randomNeeds(r *rand.Rand, earlier []api.Guard) []api.Need {
	var list []api.Need
	for i, g := range earlier {
		var names []string
		for _, other := range g.Rungs {
			if r.Intn(3) > 0 {
				names = append(names, other.Name)
			}
		}
		if len(names) > 0 && r.Intn(2) == 0 {
			list = append(list, needs(i, names...))
		}
	}
	return list
}

func randomEvent(r *rand.Rand, s api.System) api.Event {
	return api.Event{Guard: r.Intn(len(s.Guards)), Kind: pick(r, api.EventWin, api.EventWin, api.EventFail, api.EventLost)}
}

func randomEvents(r *rand.Rand, s api.System, many int) []api.Event {
	list := make([]api.Event, many)
	for i := range list {
		list[i] = randomEvent(r, s)
	}
	return list
}
