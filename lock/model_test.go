package lock

import (
	"fmt"
	"slices"

	"ringdown/api"
	"ringdown/loop"
	"ringdown/num"
)

// What follows is the chapter's definitions again, step by step and with names, to compare with.

func modelIndex(g api.Guard, name string) int {
	for i, r := range g.Rungs {
		if r.Name == name {
			return i
		}
	}
	panic(name)
}

func modelHold(s api.System, at []int, r api.Rung) bool {
	for _, n := range r.Needs {
		needed := s.Guards[n.Guard]
		if !slices.Contains(n.Rungs, needed.Rungs[at[n.Guard]].Name) {
			return false
		}
	}
	return true
}

func modelIsStatus(s api.System, x api.Status) bool {
	if len(x.At) != len(s.Guards) || len(x.Failed) != len(s.Guards) {
		return false
	}
	for i, g := range s.Guards {
		if x.At[i] < 0 || x.At[i] >= len(g.Rungs) || x.Failed[i] < 0 || x.Failed[i] >= g.Rungs[x.At[i]].Tries {
			return false
		}
	}
	for i, g := range s.Guards {
		if !modelHold(s, x.At, g.Rungs[x.At[i]]) {
			return false
		}
	}
	return true
}

// modelStep is what happens to one guard, before the guards drop.
func modelStep(g api.Guard, rung, failed, kind int) (int, int) {
	r := g.Rungs[rung]
	switch kind {
	case api.EventWin:
		if r.Next == "" {
			return rung, failed
		}
		return modelIndex(g, r.Next), 0
	case api.EventFail:
		if failed == r.Tries-1 {
			return modelIndex(g, r.Back), 0
		}
		return rung, failed + 1
	}
	return 0, 0
}

func modelMove(s api.System, x api.Status, v api.Event) api.Status {
	y := cloneStatus(x)
	y.At[v.Guard], y.Failed[v.Guard] = modelStep(s.Guards[v.Guard], x.At[v.Guard], x.Failed[v.Guard], v.Kind)
	for i, g := range s.Guards {
		for !modelHold(s, y.At, g.Rungs[y.At[i]]) {
			y.At[i] = modelIndex(g, g.Rungs[y.At[i]].Back)
			y.Failed[i] = 0
		}
	}
	return y
}

func modelEvents(s api.System, kinds ...int) []api.Event {
	var list []api.Event
	for i := range s.Guards {
		for _, k := range kinds {
			list = append(list, api.Event{Guard: i, Kind: k})
		}
	}
	return list
}

// modelGraph is the statuses that lists of some events reach, and where each event leads from each.
type modelGraph struct {
	events   []api.Event
	statuses map[string]api.Status
	after    map[string][]string
}

func key(x api.Status) string { return fmt.Sprint(x) }

func graphOf(s api.System, from api.Status, kinds ...int) modelGraph {
	g := modelGraph{modelEvents(s, kinds...), map[string]api.Status{}, map[string][]string{}}
	var visit func(x api.Status)
	visit = func(x api.Status) {
		if _, ok := g.statuses[key(x)]; ok {
			return
		}
		g.statuses[key(x)] = x
		for _, v := range g.events {
			y := modelMove(s, x, v)
			g.after[key(x)] = append(g.after[key(x)], key(y))
			visit(y)
		}
	}
	visit(from)
	return g
}

func reached(s api.System) modelGraph {
	return graphOf(s, at(make([]int, len(s.Guards))...), 0, 1, 2)
}

// shortest returns the first one of the shortest lists of events that lead to an end: the distances of all statuses from an end are improved until none gets less, and then each event is the first one that comes nearer.
func (g modelGraph) shortest(from api.Status, isEnd func(api.Status) bool) ([]api.Event, api.Errno) {
	far := len(g.statuses) + 1
	distance := map[string]int{}
	for k, x := range g.statuses {
		distance[k] = far
		if isEnd(x) {
			distance[k] = 0
		}
	}
	for changed := true; changed; {
		changed = false
		for k := range g.statuses {
			for _, next := range g.after[k] {
				if distance[next]+1 < distance[k] {
					distance[k], changed = distance[next]+1, true
				}
			}
		}
	}
	if distance[key(from)] == far {
		return nil, api.ErrNone
	}
	var list []api.Event
	for k := key(from); distance[k] > 0; {
		i := slices.IndexFunc(g.after[k], func(next string) bool { return distance[next] == distance[k]-1 })
		list = append(list, g.events[i])
		k = g.after[k][i]
	}
	return list, api.OK
}

func modelGoals(s api.System, x api.Status) bool {
	for i, g := range s.Guards {
		if g.Rungs[x.At[i]].Next != "" {
			return false
		}
	}
	return true
}

// modelWorst goes through all lists of events.
func modelWorst(g api.Guard, rung, failed, bad int) int {
	r := g.Rungs[rung]
	if r.Next == "" {
		return 0
	}
	most := 0
	for kind := range 3 {
		left := bad
		if kind != api.EventWin {
			left--
		}
		if left >= 0 {
			rung, failed := modelStep(g, rung, failed, kind)
			most = max(most, modelWorst(g, rung, failed, left))
		}
	}
	return r.Minutes + most
}

func gainIn(r api.Rung, loop int) (api.Num, bool) {
	for _, c := range r.Loops {
		if c.Loop == loop {
			return c.Gain, true
		}
	}
	return "", false
}

func calc[T any](a T, e api.Errno) T {
	if e != api.OK {
		panic(e)
	}
	return a
}

func modelSound(g api.Guard, r api.Rung, c api.Closing, f api.Filter) bool {
	if !calc(loop.Holds(f, []api.Num{c.Gain}))[0] {
		return false
	}
	for _, name := range []string{r.Next, r.Back} {
		if name == "" {
			continue
		}
		gain, closes := gainIn(g.Rungs[modelIndex(g, name)], c.Loop)
		if !closes {
			continue
		}
		low, high := c.Gain, gain
		if calc(num.Cmp(low, high)) > 0 {
			low, high = gain, c.Gain
		}
		if !calc(loop.Certain(f, low, high)) {
			return false
		}
	}
	return true
}

// modelUnsound is all places where a loop is not sound, in their order.
func modelUnsound(s api.System, filters []api.Filter) []api.Spot {
	var list []api.Spot
	for i, g := range s.Guards {
		for k, r := range g.Rungs {
			for _, c := range r.Loops {
				if !modelSound(g, r, c, filters[c.Loop]) {
					list = append(list, api.Spot{Guard: i, Rung: k, Loop: c.Loop})
				}
			}
		}
	}
	return list
}
