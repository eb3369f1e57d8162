package sky

import (
	"fmt"
	"math/rand"
	"slices"
	"testing"

	"ringdown/api"
)

// P9.3: the examples, rings of one site and the other one, and slacks that are just enough.
func TestRing(t *testing.T) {
	far := 1 << 16
	corners := netAt([3]int{far, far, far}, [3]int{-far, -far, -far})
	for _, c := range []struct {
		l                 []api.Site
		n, a, b           int
		difference, slack int
		want              []int
	}{
		{exampleNet(), 1, 0, 1, 10, 0, list(0, 3)}, {exampleNet(), 1, 0, 1, 0, 3, list(4, 5)}, {exampleNet(), 1, 1, 0, 10, 0, list(1, 2)}, {exampleNet(), 1, 0, 1, -10, 0, list(1, 2)}, {exampleNet(), 1, 0, 1, 0, 0, list(4, 5)}, {exampleNet(), 1, 0, 1, 0, 9, list(4, 5)}, {exampleNet(), 1, 0, 1, 0, 10, upTo(6)}, {exampleNet(), 1, 0, 1, 5, 5, list(0, 3, 4, 5)}, {exampleNet(), 1, 0, 1, 5, 4, nil}, {exampleNet(), 1, 0, 1, 11, 0, nil}, {exampleNet(), 1, 0, 1, 11, 1, list(0, 3)}, {exampleNet(), 1, 0, 1, 9, 0, nil}, {exampleNet(), 1, 0, 1, -11, 1, list(1, 2)},
		{exampleNet(), 1, 0, 1, 1 << 40, 1 << 17, nil}, {exampleNet(), 1, 0, 1, -1 << 40, 1 << 17, nil}, {exampleNet(), 1, 0, 1, 1 << 17, 1 << 17, list(0, 3, 4, 5)}, {exampleNet(), 1, 0, 1, -1 << 17, 1 << 17, list(1, 2, 4, 5)},
		// Sites at the same place.
		{netAt([3]int{5, 6, 7}, [3]int{5, 6, 7}), 2, 0, 1, 0, 0, upTo(24)}, {netAt([3]int{5, 6, 7}, [3]int{5, 6, 7}), 2, 0, 1, 1, 0, nil}, {netAt([3]int{5, 6, 7}, [3]int{5, 6, 7}), 2, 0, 1, 1, 1, upTo(24)},
		// 2^17 apart along each axis: 22 times that, divided by the square root of 162, for the cells in the corners of the grid 8.
		{corners, 1, 0, 1, 1 << 17, 0, list(0, 2, 4)}, {corners, 1, 1, 0, 1 << 17, 0, list(1, 3, 5)}, {corners, 1, 0, 1, 1<<17 - 1, 0, nil}, {corners, 8, 0, 1, 226556, 0, nil}, {corners, 8, 0, 1, 226556, 1, list(63, 191, 319)}, {corners, 8, 0, 1, 226555, 1, list(63, 191, 319)}, {corners, 8, 0, 1, 226555, 0, nil},
	} {
		what := fmt.Sprint(c.l, c.n, c.a, c.b, c.difference, c.slack)
		cells, e := Ring(c.l, c.n, c.a, c.b, c.difference, c.slack)
		isList(t, what, cells, e, c.want, api.OK)
		isList(t, what, cells, e, modelRing(c.l, c.n, c.a, c.b, c.difference, c.slack), api.OK)
	}
}

// P9.3: which sites, differences and slacks there are not.
func TestErrorsOfRing(t *testing.T) {
	for _, l := range validNets() {
		wrong := func(a, b, difference, slack int) {
			t.Helper()
			cells, e := Ring(l, 2, a, b, difference, slack)
			isList(t, fmt.Sprint(l, a, b, difference, slack), cells, e, nil, api.ErrArrival)
		}
		wrong(0, 0, 0, 0)
		wrong(1, 1, 0, 0)
		for _, a := range beyond(0, len(l)-1) {
			wrong(a, 0, 0, 0)
			wrong(0, a, 0, 0)
			wrong(a, a, 0, 0)
		}
		for _, n := range beyond(-1<<40, 1<<40) {
			wrong(0, 1, n, 0)
		}
		for _, n := range beyond(0, 1<<17) {
			wrong(0, 1, 0, n)
		}
		for _, n := range list(-1<<40, 1<<40) {
			for _, slack := range list(0, 1<<17) {
				_, e := Ring(l, 2, len(l)-1, 0, n, slack)
				hasError(t, fmt.Sprint(l, n, slack), e, api.OK)
			}
		}
	}
}

// P9.3: the example, and arrivals at more sites.
func TestFits(t *testing.T) {
	three := netAt([3]int{10, 0, 0}, [3]int{0, 10, 0}, [3]int{0, 0, 10})
	for _, c := range []struct {
		l    []api.Site
		n    int
		t    []api.Arrival
		want []int
	}{
		{exampleNet(), 1, arrivals(0, 5, 1, 1, 14, 0), list(0, 3)}, {exampleNet(), 1, arrivals(0, 5, 0, 1, 14, 1), list(0, 3)}, {exampleNet(), 1, arrivals(0, 5, 0, 1, 14, 0), nil}, {exampleNet(), 1, arrivals(0, 5, 0, 1, 15, 0), list(0, 3)}, {exampleNet(), 1, arrivals(0, 15, 0, 1, 5, 0), list(1, 2)}, {exampleNet(), 1, arrivals(0, 5, 5, 1, 5, 5), upTo(6)}, {exampleNet(), 1, arrivals(0, 5, 5, 1, 5, 4), list(4, 5)},
		{exampleNet(), 1, arrivals(0, 1<<40, 0, 1, 1<<40-10, 0), list(1, 2)}, {exampleNet(), 1, arrivals(0, -1<<40, 1<<16, 1, 1<<40, 1<<16), nil}, {exampleNet(), 1, arrivals(0, 1<<40, 1<<16, 1, -1<<40, 1<<16), nil}, {exampleNet(), 1, arrivals(0, 0, 1<<16, 1, 1<<17, 1<<16), list(0, 3, 4, 5)},
		{three, 1, arrivals(0, -10, 0, 1, 0, 0, 2, 0, 0), list(0)}, {three, 1, arrivals(0, 10, 0, 1, 0, 0, 2, 0, 0), list(1)}, {three, 1, arrivals(0, 0, 0, 1, 0, 0, 2, -10, 0), list(4)}, {three, 1, arrivals(1, 0, 0, 2, -10, 0), list(3, 4)}, {three, 1, arrivals(0, 0, 0, 2, -10, 0), list(1, 4)}, {three, 1, arrivals(0, 0, 0, 1, 0, 0, 2, 0, 0), nil}, {three, 1, arrivals(0, 0, 5, 1, 0, 5, 2, 0, 5), upTo(6)}, {three, 1, arrivals(0, 0, 5, 1, 0, 5, 2, 0, 4), nil},
		// Each two of them are near enough, or just the first and the last are not.
		{netAt(make([][3]int, 3)...), 1, arrivals(0, 0, 1, 1, 2, 1, 2, 3, 2), upTo(6)}, {netAt(make([][3]int, 3)...), 1, arrivals(0, 0, 1, 1, 2, 1, 2, 4, 2), nil}, {netAt(make([][3]int, 3)...), 1, arrivals(0, 0, 1, 1, 3, 2, 2, 3, 1), nil}, {netAt(make([][3]int, 3)...), 1, arrivals(0, 0, 1, 2, 2, 1), upTo(6)},
	} {
		what := fmt.Sprint(c.l, c.n, c.t)
		cells, e := Fits(c.l, c.n, c.t)
		isList(t, what, cells, e, c.want, api.OK)
		isList(t, what, cells, e, modelFits(c.l, c.n, c.t), api.OK)
	}
}

// P9.3: which lists are no arrivals.
func TestErrorsOfFits(t *testing.T) {
	l := netAt(make([][3]int, 4)...)
	wrong := func(a []api.Arrival) {
		t.Helper()
		cells, e := Fits(l, 1, a)
		isList(t, fmt.Sprint(a), cells, e, nil, api.ErrArrival)
	}
	for _, a := range [][]api.Arrival{nil, {}, arrivals(0, 0, 0), arrivals(3, 0, 0), arrivals(1, 0, 0, 1, 0, 0), arrivals(1, 0, 0, 0, 0, 0), arrivals(0, 0, 0, 2, 0, 0, 1, 0, 0), arrivals(0, 0, 0, 2, 0, 0, 2, 0, 0), arrivals(0, 0, 0, 1, 0, 0, 2, 0, 0, 3, 0, 0, 4, 0, 0), arrivals(0, 0, 0, 1, 0, 0, 2, 0, 0, 3, 0, 0, 3, 0, 0), make([]api.Arrival, 100)} {
		wrong(a)
	}
	for i := range 3 {
		change := func(n int, do func(*api.Arrival, int)) {
			t.Helper()
			a := arrivals(0, 0, 0, 1, 0, 0, 3, 0, 0)
			do(&a[i], n)
			wrong(a)
		}
		for _, n := range beyond(0, 3) {
			change(n, func(a *api.Arrival, n int) { a.Site = n })
		}
		for _, n := range beyond(-1<<40, 1<<40) {
			change(n, func(a *api.Arrival, n int) { a.Time = n })
		}
		for _, n := range beyond(0, 1<<16) {
			change(n, func(a *api.Arrival, n int) { a.Slack = n })
		}
	}
	for _, a := range [][]api.Arrival{arrivals(0, 0, 0, 3, 0, 0), arrivals(0, 1<<40, 1<<16, 1, -1<<40, 1<<16, 2, 0, 0, 3, 0, 0)} {
		_, e := Fits(l, 1, a)
		hasError(t, fmt.Sprint(a), e, api.OK)
	}
}

// P9.3, P9.9: as the definitions say; the cells that fit lie on all rings, more slack removes none, and a further arrival adds none.
func TestRandomFits(t *testing.T) {
	r := rand.New(rand.NewSource(1))
	some, fewer, more := 0, 0, 0
	for range 1500 {
		l, n := randomNet(r), 1+r.Intn(4)
		a := randomArrivals(r, l, n)
		what := fmt.Sprint(l, n, a)
		cells, e := Fits(l, n, a)
		isList(t, what, cells, e, modelFits(l, n, a), api.OK)
		isList(t, what, cells, e, onAllRings(t, l, n, a), api.OK)
		wider := slices.Clone(a)
		wider[r.Intn(len(a))].Slack += pick(r, 1, 5, 1000)
		wide := must[[]int](t)(Fits(l, n, wider))
		first := cells
		if len(a) > 2 {
			at := r.Intn(len(a))
			first = must[[]int](t)(Fits(l, n, slices.Delete(slices.Clone(a), at, at+1)))
		}
		if !isSome(cells, wide) || !isSome(cells, first) {
			t.Errorf("%s: %v, %v with more slack, %v with fewer arrivals", what, cells, wide, first)
		}
		for _, c := range []struct {
			is   bool
			many *int
		}{{0 < len(cells) && len(cells) < 6*n*n, &some}, {len(cells) < len(first), &fewer}, {len(cells) < len(wide), &more}} {
			if c.is {
				*c.many++
			}
		}
	}
	if some < 300 || fewer < 100 || more < 100 {
		t.Errorf("%d with some cells, %d with fewer, %d with more", some, fewer, more)
	}
}

// onAllRings are the cells on the rings of each two arrivals, in both directions.
func onAllRings(t *testing.T, l []api.Site, n int, a []api.Arrival) []int {
	cells := upTo(6 * n * n)
	for i, x := range a {
		for _, y := range append(a[:i:i], a[i+1:]...) {
			if difference := y.Time - x.Time; -1<<40 <= difference && difference <= 1<<40 {
				ring := must[[]int](t)(Ring(l, n, x.Site, y.Site, difference, x.Slack+y.Slack))
				cells = slices.DeleteFunc(cells, func(c int) bool { return !slices.Contains(ring, c) })
			}
		}
	}
	return cells
}

// P9.3: rings as the definitions say, about differences of cells.
func TestRandomRings(t *testing.T) {
	r := rand.New(rand.NewSource(2))
	some := 0
	for range 3000 {
		l, n := randomNet(r), randomGrid(r)
		a := r.Intn(len(l))
		b := (a + 1 + r.Intn(len(l)-1)) % len(l)
		d := modelDirections(n)[r.Intn(6*n*n)]
		difference := modelArrive(l[b], d) - modelArrive(l[a], d) + randomNumber(r, pick(r, 0, 1, 2, 1000))
		slack := pick(r, 0, 1, 2, 10, 1000, 1<<17)
		what := fmt.Sprint(l, n, a, b, difference, slack)
		cells, e := Ring(l, n, a, b, difference, slack)
		isList(t, what, cells, e, modelRing(l, n, a, b, difference, slack), api.OK)
		if 0 < len(cells) && len(cells) < 6*n*n {
			some++
		}
	}
	if some < 500 {
		t.Errorf("%d with some cells", some)
	}
}

// P9.9: where something comes from fits, if each error is at most the slack less 1.
func TestTruthFits(t *testing.T) {
	r := rand.New(rand.NewSource(3))
	for range 3000 {
		l, n := randomNet(r), randomGrid(r)
		cell, at := r.Intn(6*n*n), randomNumber(r, pick(r, 0, 1000, 1<<39))
		var a []api.Arrival
		for i, time := range must[[]int](t)(Arrive(l, n, cell)) {
			slack := 1 + r.Intn(pick(r, 1, 3, 1<<16))
			a = append(a, api.Arrival{Site: i, Time: at + time + pick(r, slack-1, 1-slack, randomNumber(r, slack-1)), Slack: slack})
		}
		if cells := must[[]int](t)(Fits(l, n, a)); !slices.Contains(cells, cell) {
			t.Errorf("%v, %d, %v: %d does not fit", l, n, a, cell)
		}
	}
}
