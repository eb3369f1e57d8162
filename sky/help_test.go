package sky

import (
	"fmt"
	"math/rand"
	"slices"
	"strings"
	"testing"

	"ringdown/api"
)

func list(n ...int) []int { return n }

func lists(l ...[]int) [][]int { return l }

func upTo(n int) []int {
	l := make([]int, n)
	for i := range l {
		l[i] = i
	}
	return l
}

func nums(l ...api.Num) []api.Num { return l }

func siteAt(name string, place, u, v [3]int) api.Site {
	return api.Site{Name: name, Place: place, ArmU: u, ArmV: v}
}

// exampleNet is the network of the chapter's examples.
func exampleNet() []api.Site {
	return []api.Site{siteAt("east", [3]int{10, 0, 0}, [3]int{1, 0, 0}, [3]int{0, 1, 0}), siteAt("north", [3]int{0, 10, 0}, [3]int{0, 1, 0}, [3]int{0, 0, 2})}
}

// netAt has sites at some places.
func netAt(places ...[3]int) []api.Site {
	var l []api.Site
	for i, p := range places {
		l = append(l, siteAt(fmt.Sprint("s", i), p, [3]int{1, 0, 0}, [3]int{0, 1, 0}))
	}
	return l
}

// arrivals has the site, the time and the slack of one arrival after those of another one.
func arrivals(n ...int) []api.Arrival {
	var l []api.Arrival
	for three := range slices.Chunk(n, 3) {
		l = append(l, api.Arrival{Site: three[0], Time: three[1], Slack: three[2]})
	}
	return l
}

func limit(n, d int) api.Limit { return api.Limit{N: n, D: d} }

func scope(name string, field, low api.Limit, zeniths ...[3]int) api.Scope {
	return api.Scope{Name: name, Field: field, Low: low, Zeniths: zeniths}
}

func scopes(l ...api.Scope) []api.Scope { return l }

// exampleScopes is the telescope of the chapter's examples.
func exampleScopes() []api.Scope {
	return scopes(scope("t", limit(1, 2), limit(0, 1), [3]int{1, 0, 0}))
}

// looks has the turn, the telescope and the cell of one look after those of another one.
func looks(n ...int) []api.Look {
	var l []api.Look
	for three := range slices.Chunk(n, 3) {
		l = append(l, api.Look{Turn: three[0], Scope: three[1], Cell: three[2]})
	}
	return l
}

// must returns a result of a call that has no error.
func must[T any](t *testing.T) func(T, api.Errno) T {
	return func(a T, e api.Errno) T {
		t.Helper()
		if e != api.OK {
			t.Fatalf("error %d", e)
		}
		return a
	}
}

// is checks a result that can be compared; with an error it is the zero value.
func is[T comparable](t *testing.T, what string, got T, e api.Errno, want T, wantError api.Errno) {
	t.Helper()
	if got != want || e != wantError {
		t.Errorf("%s: %v, %d, not %v, %d", what, got, e, want, wantError)
	}
}

func hasError(t *testing.T, what string, e, want api.Errno) {
	t.Helper()
	if e != want {
		t.Errorf("%s: %d, not %d", what, e, want)
	}
}

// isList checks a list; with an error it has no elements.
func isList[T comparable](t *testing.T, what string, got []T, e api.Errno, want []T, wantError api.Errno) {
	t.Helper()
	if !slices.Equal(got, want) || e != wantError {
		t.Errorf("%s: %v, %d, not %v, %d", what, got, e, want, wantError)
	}
}

// isSome says that all elements of a list are in another one.
func isSome[T comparable](l, more []T) bool {
	return !slices.ContainsFunc(l, func(x T) bool { return !slices.Contains(more, x) })
}

func pick[T any](r *rand.Rand, l ...T) T { return l[r.Intn(len(l))] }

func randomNumber(r *rand.Rand, most int) int { return r.Intn(2*most+1) - most }

func randomVector(r *rand.Rand, most int) [3]int {
	return [3]int{randomNumber(r, most), randomNumber(r, most), randomNumber(r, most)}
}

// randomNonzero is no vector of zeros.
func randomNonzero(r *rand.Rand, most int) [3]int {
	for {
		if v := randomVector(r, most); v != [3]int{} {
			return v
		}
	}
}

func randomNet(r *rand.Rand) []api.Site {
	far, long := pick(r, 0, 3, 20, 1000, api.MaxPlace), pick(r, 1, 2, 100)
	var l []api.Site
	for i := range 2 + r.Intn(5) {
		l = append(l, siteAt(fmt.Sprint("s", i), randomVector(r, far), randomNonzero(r, long), randomNonzero(r, long)))
	}
	return l
}

func randomGrid(r *rand.Rand) int { return 1 + r.Intn(api.MaxGrid) }

// randomSome are some of so many numbers from 0 on.
func randomSome(r *rand.Rand, many int) []int {
	part := r.Intn(5)
	return slices.DeleteFunc(upTo(many), func(int) bool { return r.Intn(4) >= part })
}

// randomArrivals are about those of something that comes from a cell.
func randomArrivals(r *rand.Rand, l []api.Site, n int) []api.Arrival {
	sites := randomSome(r, len(l))
	if len(sites) < 2 {
		sites = upTo(len(l))
	}
	d := modelDirections(n)[r.Intn(6*n*n)]
	at, slack := randomNumber(r, pick(r, 0, 50, 1<<39)), pick(r, 0, 1, 3, 20, 500)
	var t []api.Arrival
	for _, i := range sites {
		one := r.Intn(slack + 1)
		t = append(t, api.Arrival{Site: i, Time: at + modelArrive(l[i], d) + randomNumber(r, one), Slack: one})
	}
	return t
}

func randomWeights(r *rand.Rand, n int) []int {
	most := pick(r, 0, 1, 3, 1000)
	w := make([]int, 6*n*n)
	for i := range w {
		w[i] = max(0, r.Intn(most+1)-pick(r, 0, 0, most/2))
	}
	return w
}

func randomLimit(r *rand.Rand) api.Limit {
	d := pick(r, 1, 2, 3, 4, 10, 4096)
	return limit(r.Intn(d+1), d)
}

func randomScopes(r *rand.Rand, most, turns int) []api.Scope {
	turns, many := 1+r.Intn(turns), pick(r, 1, 2, 10, 1000)
	var l []api.Scope
	for i := range 1 + r.Intn(most) {
		s := scope(fmt.Sprint("t", i), randomLimit(r), randomLimit(r))
		if r.Intn(2) == 0 {
			s.Low.N = 0
		}
		for range turns {
			s.Zeniths = append(s.Zeniths, randomNonzero(r, many))
		}
		l = append(l, s)
	}
	return l
}

// randomPlan has some of all looks that there may be.
func randomPlan(r *rand.Rand, l []api.Scope, n int) []api.Look {
	var plan []api.Look
	for turn := range l[0].Zeniths {
		for i := range l {
			if cells := modelSees(l[i], turn, n); len(cells) > 0 && r.Intn(3) > 0 {
				plan = append(plan, api.Look{Turn: turn, Scope: i, Cell: pick(r, cells...)})
			}
		}
	}
	return plan
}

// wrongNames are no names.
func wrongNames() []string {
	return []string{"", "A", "1a", "_a", "a b", "a-b", "a2345678901234567", "ä", "a\x00", "\xff", strings.Repeat("a", 1000)}
}

// beyond are numbers that are a bit, or far, out of a range.
func beyond(low, high int) []int {
	return list(low-1, low-2, high+1, high+2, 1<<62, -1<<62, 1<<63-1, -1<<63)
}

func wrongGrids() []int { return append(beyond(1, 8), 16, 1<<32+1, 1<<33) }

// wrongCells are none of a grid.
func wrongCells(n int) []int { return append(beyond(0, 6*n*n-1), 1<<32) }
