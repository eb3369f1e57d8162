package sky

import (
	"slices"

	"ringdown/api"
	"ringdown/num"
)

// mostTogether is the greatest sum of the slacks of two arrivals.
const mostTogether = 2 * api.MaxSlack

func isFrom(low, n, high int) bool { return low <= n && n <= high }

// areNamed says that there are from low to high elements, and that all of them are valid, with names of which no two are equal.
func areNamed[T any](l []T, low, high int, nameOf func(T) string, isValid func(T) bool) bool {
	if !isFrom(low, len(l), high) {
		return false
	}
	seen := map[string]bool{}
	for _, x := range l {
		name := nameOf(x)
		if !num.IsName(name) || seen[name] || !isValid(x) {
			return false
		}
		seen[name] = true
	}
	return true
}

func isNet(l []api.Site) bool {
	nameOf := func(s api.Site) string { return s.Name }
	return areNamed(l, 2, api.MaxSites, nameOf, isSite)
}

func isSite(s api.Site) bool {
	return vector(s.Place).isWithin(api.MaxPlace) && isArm(s.ArmU) && isArm(s.ArmV)
}

func isArm(v vector) bool { return v.isWithin(api.MaxArm) && !v.isNone() }

// isBetween says that a and b are different ones of so many sites.
func isBetween(a, b, sites int) bool {
	return isFrom(0, a, sites-1) && isFrom(0, b, sites-1) && a != b
}

func isInstant(n int) bool { return isFrom(-api.MaxInstant, n, api.MaxInstant) }

// areArrivals says that these are some at so many sites.
func areArrivals(t []api.Arrival, sites int) bool {
	last := -1
	for _, a := range t {
		if !isFrom(last+1, a.Site, sites-1) || !isInstant(a.Time) || !isFrom(0, a.Slack, api.MaxSlack) {
			return false
		}
		last = a.Site
	}
	return len(t) >= 2
}

func areScopes(l []api.Scope) bool {
	nameOf := func(s api.Scope) string { return s.Name }
	isValid := func(s api.Scope) bool { return isScope(s) && len(s.Zeniths) == len(l[0].Zeniths) }
	return areNamed(l, 1, api.MaxScopes, nameOf, isValid)
}

func isScope(s api.Scope) bool {
	isWrong := func(z [3]int) bool { return !isVector(z) || vector(z).isNone() }
	return isLimit(s.Field) && isLimit(s.Low) && isFrom(1, len(s.Zeniths), api.MaxTurns) && !slices.ContainsFunc(s.Zeniths, isWrong)
}

func isVector(v vector) bool { return v.isWithin(api.MaxVector) }

func isLimit(l api.Limit) bool { return isFrom(1, l.D, api.MaxFraction) && isFrom(0, l.N, l.D) }

// areWeighed says that these are weights for a grid, and some of its cells.
func areWeighed(g grid, weights, cells []int) bool {
	isWrong := func(n int) bool { return !isFrom(0, n, api.MaxWeight) }
	return len(weights) == g.cells() && !slices.ContainsFunc(weights, isWrong) && areCells(g, cells)
}

func areCells(g grid, cells []int) bool {
	last := -1
	for _, cell := range cells {
		if cell <= last || !g.isCell(cell) {
			return false
		}
		last = cell
	}
	return true
}
