package lock

import (
	"slices"

	"ringdown/api"
)

// place is the rung where a guard is, and how many tries have failed there.
type place struct{ rung, failed int }

// status is the places of all guards. Places that no guard has are always zero, so that equal statuses are equal arrays.
type status [api.MaxGuards]place

// need is a guard, and which of its rungs are needed.
type need struct {
	guard int
	rungs [api.MaxRungs]bool
}

// rung is a rung of a valid system, with indices in the place of names; next is below 0 at a goal.
type rung struct {
	next, back, tries, minutes int
	needs                      []need
}

type ladder []rung

// system is the ladders of the guards of a valid system.
type system []ladder

func systemOf(s api.System) system {
	ladders := make(system, len(s.Guards))
	for i, g := range s.Guards {
		for _, r := range g.Rungs {
			ladders[i] = append(ladders[i], rung{
				next: indexOf(g, r.Next), back: indexOf(g, r.Back), tries: r.Tries, minutes: r.Minutes,
				needs: needsOf(r, s.Guards),
			})
		}
	}
	return ladders
}

func needsOf(r api.Rung, guards []api.Guard) []need {
	needs := make([]need, len(r.Needs))
	for i, n := range r.Needs {
		needs[i].guard = n.Guard
		for _, name := range n.Rungs {
			needs[i].rungs[indexOf(guards[n.Guard], name)] = true
		}
	}
	return needs
}

func (r rung) isGoal() bool { return r.next < 0 }

// after returns where a guard is after an event, if all needs hold.
func (l ladder) after(p place, kind int) place {
	r := l[p.rung]
	switch {
	case kind == api.EventLost:
		return place{}
	case kind == api.EventWin && r.isGoal():
		return p
	case kind == api.EventWin:
		return place{rung: r.next}
	case p.failed < r.tries-1:
		return place{rung: p.rung, failed: p.failed + 1}
	}
	return place{rung: r.back}
}

func (s system) isGuard(guard int) bool { return isFrom(0, guard, len(s)-1) }

// isRung says that the numbers are the indices of a guard, and of one of its rungs.
func (s system) isRung(at [2]int) bool {
	return s.isGuard(at[0]) && isFrom(0, at[1], len(s[at[0]])-1)
}

func (s system) isEvent(v api.Event) bool {
	return s.isGuard(v.Guard) && slices.Contains(anyKind(), v.Kind)
}

func anyKind() []int { return []int{api.EventWin, api.EventFail, api.EventLost} }

// statusOf returns the status that x is, if it is one.
func (s system) statusOf(x api.Status) (status, bool) {
	if len(x.At) != len(s) || len(x.Failed) != len(s) {
		return status{}, false
	}
	var places status
	for i, at := range x.At {
		if !s.isRung([2]int{i, at}) || !isFrom(0, x.Failed[i], s[i][at].tries-1) {
			return status{}, false
		}
		places[i] = place{rung: at, failed: x.Failed[i]}
	}
	return places, places == s.dropped(places)
}

// written returns a status as those outside of the package see it.
func (s system) written(x status) api.Status {
	at, failed := make([]int, len(s)), make([]int, len(s))
	for i := range s {
		at[i], failed[i] = x[i].rung, x[i].failed
	}
	return api.Status{At: at, Failed: failed}
}

func (x status) isAt(at [2]int) bool { return x[at[0]].rung == at[1] }

func (x status) lacks(n need) bool { return !n.rungs[x[n.guard].rung] }

func (s system) rungOf(x status, guard int) rung { return s[guard][x[guard].rung] }

func (s system) areAtGoals(x status) bool {
	for i := range s {
		if !s.rungOf(x, i).isGoal() {
			return false
		}
	}
	return true
}

// after returns the status after an event.
func (s system) after(x status, v api.Event) status {
	x[v.Guard] = s[v.Guard].after(x[v.Guard], v.Kind)
	return s.dropped(x)
}

// dropped returns the status to which the guards drop. They need only guards before them, so that no need that held for one of them is lost later; and at their first rungs they need nothing.
func (s system) dropped(x status) status {
	for i := range s {
		for slices.ContainsFunc(s.rungOf(x, i).needs, x.lacks) {
			x[i] = place{rung: s.rungOf(x, i).back}
		}
	}
	return x
}
