package lock

import (
	"iter"
	"slices"

	"ringdown/api"
)

// step is how a status was reached first: from which other one, with which event.
type step struct {
	before status
	event  api.Event
}

// events gives all events of some kinds, by guard, then by kind.
func (s system) events(kinds []int) iter.Seq[api.Event] {
	return func(yield func(api.Event) bool) {
		for guard := range s {
			for _, kind := range kinds {
				if !yield(api.Event{Guard: guard, Kind: kind}) {
					return
				}
			}
		}
	}
}

// search returns the shortest list of events of some kinds (given in their order) that leads from one status to one that is an end; of several the first one. It looks at each status once: breadth first, so that those that are reached with a lesser list come first.
func (s system) search(from status, kinds []int, isEnd func(status) bool) (list []api.Event, isFound bool) {
	steps := map[status]step{from: {}}
	queue := []status{from}
	reach := func(x status, by step) {
		if _, isKnown := steps[x]; !isKnown {
			steps[x] = by
			queue = append(queue, x)
		}
	}
	for i := 0; i < len(queue); i++ {
		x := queue[i]
		if isEnd(x) {
			return way(steps, from, x), true
		}
		for v := range s.events(kinds) {
			reach(s.after(x, v), step{before: x, event: v})
		}
	}
	return nil, false
}

// way returns the events that lead from one status to another one by the steps that are kept.
func way(steps map[status]step, from, to status) []api.Event {
	var list []api.Event
	for to != from {
		list = append(list, steps[to].event)
		to = steps[to].before
	}
	slices.Reverse(list)
	return list
}

// ways returns in how many ways the guards can be at rungs in what runs reach.
func (s system) ways() int {
	seen := map[[api.MaxGuards]int]bool{}
	s.search(status{}, anyKind(), func(x status) bool {
		var rungs [api.MaxGuards]int
		for i, p := range x {
			rungs[i] = p.rung
		}
		seen[rungs] = true
		return false
	})
	return len(seen)
}
