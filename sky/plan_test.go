package sky

import (
	"fmt"
	"math/rand"
	"testing"

	"ringdown/api"
)

// twoScopes see what is before them, in two turns; the one covers all of that, the other one a cell.
func twoScopes() []api.Scope {
	x, y := [3]int{1, 1, 0}, [3]int{0, 1, 1}
	return scopes(scope("wide", limit(0, 1), limit(0, 1), x, y), scope("narrow", limit(1, 1), limit(0, 1), x, y))
}

// P9.6: the example, cells that are covered twice or not looked for, and looks that see nothing.
func TestGain(t *testing.T) {
	for _, c := range []struct {
		l     []api.Scope
		cells []int
		plan  []api.Look
		want  int
	}{
		{exampleScopes(), upTo(6), looks(0, 0, 0), 5}, {exampleScopes(), upTo(6), nil, 0}, {exampleScopes(), list(1, 2, 3), looks(0, 0, 0), 0}, {exampleScopes(), nil, looks(0, 0, 0), 0},
		{twoScopes(), upTo(6), looks(0, 0, 0), 5}, {twoScopes(), upTo(6), looks(0, 0, 2), 1}, {twoScopes(), upTo(6), looks(0, 0, 0, 0, 1, 0), 5}, {twoScopes(), upTo(6), looks(0, 0, 0, 0, 1, 2), 6}, {twoScopes(), upTo(6), looks(0, 0, 2, 1, 0, 2), 1}, {twoScopes(), upTo(6), looks(0, 1, 0, 1, 0, 2, 1, 1, 4), 6}, {twoScopes(), list(0), looks(0, 1, 0, 1, 0, 2, 1, 1, 4), 5}, {twoScopes(), list(2, 4), looks(0, 1, 0, 1, 0, 2, 1, 1, 4), 1},
	} {
		what := fmt.Sprint(c.l, c.cells, c.plan)
		gain, e := Gain(c.l, 1, exampleWeights(), c.cells, c.plan)
		is(t, what, gain, e, c.want, api.OK)
		is(t, what, gain, e, modelGain(c.l, 1, exampleWeights(), c.cells, c.plan), api.OK)
	}
}

// P9.6: ErrWeight comes before plans that are none.
func TestErrorsOfGain(t *testing.T) {
	wrongPlans := [][]api.Look{looks(0, 0, 1), looks(0, 0, 4), looks(0, 0, 0, 0, 0, 0), looks(0, 0, 0, 0, 0, 2), looks(0, 1, 0, 0, 0, 0), looks(1, 0, 2, 0, 0, 0), looks(1, 0, 2, 0, 1, 0), looks(1, 1, 2, 1, 0, 2), looks(0, 0, 0, 0, 1, 0, 0, 1, 2), looks(0, 0, 0, 0, 1, 0, 0, 0, 2), looks(0, 0, 0, 1, 0, 0), looks(0, 0, 0, 1, 0, 5), make([]api.Look, 1000)}
	for i := range 2 {
		for _, n := range beyond(0, 1) {
			plan := looks(0, 0, 0, 1, 1, 2)
			plan[i].Turn = n
			wrongPlans = append(wrongPlans, plan)
			plan = looks(0, 0, 0, 1, 1, 2)
			plan[i].Scope = n
			wrongPlans = append(wrongPlans, plan)
		}
		for _, n := range wrongCells(1) {
			plan := looks(0, 0, 0, 1, 1, 2)
			plan[i].Cell = n
			wrongPlans = append(wrongPlans, plan)
		}
	}
	for _, plan := range wrongPlans {
		gain, e := Gain(twoScopes(), 1, exampleWeights(), upTo(6), plan)
		is(t, fmt.Sprint(plan), gain, e, 0, api.ErrScope)
		for _, cells := range wrongSome(1) {
			gain, e := Gain(twoScopes(), 1, exampleWeights(), cells, plan)
			is(t, fmt.Sprint(len(cells), plan), gain, e, 0, api.ErrWeight)
		}
	}
	for n := 1; n <= 8; n++ {
		wrong := func(weights, cells []int) {
			t.Helper()
			what := fmt.Sprint(n, len(weights), len(cells))
			for _, plan := range [][]api.Look{nil, looks(0, 0, 0), looks(-1, 0, 0)} {
				gain, e := Gain(exampleScopes(), n, weights, cells, plan)
				is(t, what, gain, e, 0, api.ErrWeight)
			}
			plan, gain, e := Plan(exampleScopes(), n, weights, cells)
			isList(t, what, plan, e, nil, api.ErrWeight)
			is(t, what, gain, e, 0, api.ErrWeight)
		}
		for _, weights := range wrongWeights(n) {
			wrong(weights, list(0))
			wrong(weights, list(1, 0))
		}
		for _, cells := range wrongSome(n) {
			wrong(make([]int, 6*n*n), cells)
		}
	}
}

// P9.6: the example, the first one of equal cells, and telescopes that do not look.
func TestPlan(t *testing.T) {
	for _, c := range []struct {
		l              []api.Scope
		n              int
		weights, cells []int
		want           []api.Look
		gain           int
	}{
		{exampleScopes(), 1, exampleWeights(), upTo(6), looks(0, 0, 0), 5}, {exampleScopes(), 1, exampleWeights(), list(1, 2, 3), nil, 0}, {exampleScopes(), 1, exampleWeights(), nil, nil, 0}, {exampleScopes(), 1, make([]int, 6), upTo(6), nil, 0},
		{twoScopes(), 1, exampleWeights(), upTo(6), looks(0, 0, 0, 0, 1, 2), 6}, {twoScopes(), 1, exampleWeights(), list(2, 3), looks(0, 0, 2), 1}, {twoScopes(), 1, list(5, 1, 7, 3, 2, 0), upTo(6), looks(0, 0, 2, 0, 1, 0, 1, 0, 4), 14}, {twoScopes(), 1, list(5, 1, 0, 3, 2, 0), upTo(6), looks(0, 0, 0, 1, 0, 4), 7}, {twoScopes(), 1, list(4, 1, 4, 3, 4, 0), upTo(6), looks(0, 0, 0, 0, 1, 2, 1, 0, 4), 12},
		// Each cell of a face covers the two beside it: the first one is taken, then the first one of those left.
		{scopes(scope("a", limit(4, 9), limit(2, 3), [3]int{1, 0, 0}, [3]int{1, 0, 0}, [3]int{1, 0, 0})), 2, append(list(1, 1, 1, 1), make([]int, 20)...), list(0, 1, 2, 3), looks(0, 0, 0, 1, 0, 1), 4}, {scopes(scope("a", limit(4, 9), limit(2, 3), [3]int{1, 0, 0})), 2, append(list(1, 2, 1, 3), make([]int, 20)...), list(0, 1, 2, 3), looks(0, 0, 1), 6}, {scopes(scope("a", limit(4, 9), limit(2, 3), [3]int{1, 0, 0})), 2, append(list(1, 2, 1, 3), make([]int, 20)...), list(0, 1, 2), looks(0, 0, 0), 4}, {scopes(scope("a", limit(4, 9), limit(2, 3), [3]int{1, 0, 0})), 2, append(list(1, 2, 1, 3), make([]int, 20)...), list(1, 2, 3), looks(0, 0, 3), 6},
		// Nothing is seen.
		{scopes(scope("a", limit(0, 1), limit(1, 1), [3]int{1, 2, 3})), 1, exampleWeights(), upTo(6), nil, 0},
	} {
		what := fmt.Sprint(c.l, c.n, c.weights, c.cells)
		plan, gain, e := Plan(c.l, c.n, c.weights, c.cells)
		isList(t, what, plan, e, c.want, api.OK)
		is(t, what, gain, e, c.gain, api.OK)
		isList(t, what, plan, e, modelPlan(c.l, c.n, c.weights, c.cells), api.OK)
	}
}

// P9.6, P9.11: as the definitions say; each look covers something new.
func TestRandomPlans(t *testing.T) {
	r := rand.New(rand.NewSource(1))
	several := 0
	for range 300 {
		n := 1 + r.Intn(2)
		l := randomScopes(r, 3, 3)
		weights, cells := randomWeights(r, n), randomSome(r, 6*n*n)
		what := fmt.Sprint(l, n, weights, cells)
		plan, gain, e := Plan(l, n, weights, cells)
		isList(t, what, plan, e, modelPlan(l, n, weights, cells), api.OK)
		is(t, what, gain, e, modelGain(l, n, weights, cells, plan), api.OK)
		last := 0
		for i := range plan {
			more, e := Gain(l, n, weights, cells, plan[:i+1])
			hasError(t, what, e, api.OK)
			if more <= last {
				t.Errorf("%s: %v: look %d covers nothing new", what, plan, i)
			}
			last = more
		}
		if len(plan) > 2 {
			several++
		}
		other := randomPlan(r, l, n)
		more, e := Gain(l, n, weights, cells, other)
		is(t, what, more, e, modelGain(l, n, weights, cells, other), api.OK)
		if more > 2*gain {
			t.Errorf("%s: %v gains more than twice as much as %v", what, other, plan)
		}
	}
	if several < 30 {
		t.Errorf("%d with several looks", several)
	}
}

// P9.11: of all plans, none gains more than twice as much as the planned looks.
func TestAllPlans(t *testing.T) {
	r := rand.New(rand.NewSource(2))
	better := 0
	for range 200 {
		l := randomScopes(r, 2, 2)
		weights, cells := randomWeights(r, 1), upTo(6)
		plan, gain, e := Plan(l, 1, weights, cells)
		hasError(t, fmt.Sprint(l, weights), e, api.OK)
		most := 0
		for _, other := range modelPlans(l, 1) {
			more, e := Gain(l, 1, weights, cells, other)
			hasError(t, fmt.Sprint(l, weights, other), e, api.OK)
			most = max(most, more)
		}
		if most < gain || most > 2*gain {
			t.Errorf("%v, %v: %d is possible, %v gains %d", l, weights, most, plan, gain)
		}
		if most > gain {
			better++
		}
	}
	if better < 5 {
		t.Errorf("%d times a better plan", better)
	}
}

// P9.6: as many telescopes, turns and cells as there may be.
func TestGreatestPlan(t *testing.T) {
	var l []api.Scope
	for i := range 4 {
		s := scope(fmt.Sprint("t", i), limit(4000, 4096), limit(0, 4096))
		for turn := range 8 {
			s.Zeniths = append(s.Zeniths, [3]int{1000 - 250*turn, 1000 - 100*i, 250*turn - 999})
		}
		l = append(l, s)
	}
	weights := make([]int, 384)
	for i := range weights {
		weights[i] = 1000 - i%7
	}
	plan, gain, e := Plan(l, 8, weights, upTo(384))
	is(t, "plan", len(plan), e, 32, api.OK)
	again, e := Gain(l, 8, weights, upTo(384), plan)
	is(t, "gain", again, e, gain, api.OK)
	is(t, "gain", gain, e, modelGain(l, 8, weights, upTo(384), plan), api.OK)
}
