package lock

import (
	"slices"

	"ringdown/api"
	"ringdown/num"
	"ringdown/short"
)

func isSystem(s api.System) bool {
	if !isFrom(1, len(s.Guards), api.MaxGuards) || !areNames(s.Guards, func(g api.Guard) string { return g.Name }) {
		return false
	}
	for i, g := range s.Guards {
		if !isGuard(g, s.Guards[:i]) {
			return false
		}
	}
	return true
}

func isFrom(low, n, high int) bool { return low <= n && n <= high }

// areNames says that all elements of a list have names, of which no two are equal.
func areNames[T any](list []T, nameOf func(T) string) bool {
	seen := map[string]bool{}
	for _, element := range list {
		name := nameOf(element)
		if !num.IsName(name) || seen[name] {
			return false
		}
		seen[name] = true
	}
	return true
}

func isGuard(g api.Guard, earlier []api.Guard) bool {
	if !isFrom(1, len(g.Rungs), api.MaxRungs) || !areNames(g.Rungs, func(r api.Rung) string { return r.Name }) {
		return false
	}
	for i, r := range g.Rungs {
		if !isFrom(1, r.Tries, api.MaxTries) || !isFrom(1, r.Minutes, api.MaxStay) || !leadsToGoal(g, r) || !fallsBack(g, i) || !areClosings(r.Loops) {
			return false
		}
		if i == 0 && len(r.Needs) > 0 || !areNeeds(r.Needs, earlier) {
			return false
		}
	}
	return true
}

// indexOf returns the index of the rung with a name, or -1 if there is none.
func indexOf(g api.Guard, name string) int {
	return slices.IndexFunc(g.Rungs, func(r api.Rung) bool { return r.Name == name })
}

// leadsToGoal says that whoever goes on from Next to Next comes to a goal. Who has not met one at as many rungs as there are goes round in a circle.
func leadsToGoal(g api.Guard, r api.Rung) bool {
	for range g.Rungs {
		if r.Next == "" {
			return true
		}
		next := indexOf(g, r.Next)
		if next < 0 {
			return false
		}
		r = g.Rungs[next]
	}
	return false
}

// fallsBack says that Back is right in the rung with an index.
func fallsBack(g api.Guard, i int) bool {
	return isFrom(0, indexOf(g, g.Rungs[i].Back), max(i-1, 0))
}

func areNeeds(needs []api.Need, earlier []api.Guard) bool {
	isWrong := func(n api.Need) bool {
		return !isFrom(0, n.Guard, len(earlier)-1) || !areNeeded(n.Rungs, earlier[n.Guard])
	}
	return areIncreasing(needs, func(n api.Need) int { return n.Guard }) && !slices.ContainsFunc(needs, isWrong)
}

// areNeeded says that a list has at least one name, and only names of rungs of g, in their order.
func areNeeded(names []string, g api.Guard) bool {
	index := func(name string) int { return indexOf(g, name) }
	return len(names) > 0 && index(names[0]) >= 0 && areIncreasing(names, index)
}

func areClosings(loops []api.Closing) bool {
	isWrong := func(c api.Closing) bool {
		return !isFrom(0, c.Loop, api.MaxLoops-1) || !short.IsReal(c.Gain)
	}
	return areIncreasing(loops, func(c api.Closing) int { return c.Loop }) && !slices.ContainsFunc(loops, isWrong)
}

// areIncreasing says that the keys of a list are strictly increasing.
func areIncreasing[T any](list []T, keyOf func(T) int) bool {
	for i := 1; i < len(list); i++ {
		if keyOf(list[i-1]) >= keyOf(list[i]) {
			return false
		}
	}
	return true
}
