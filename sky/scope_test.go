package sky

import (
	"fmt"
	"math/rand"
	"testing"

	"ringdown/api"
)

func repeated(z [3]int, many int) [][3]int {
	var l [][3]int
	for range many {
		l = append(l, z)
	}
	return l
}

func validScopes() [][]api.Scope {
	x, one := [3]int{1, 0, 0}, limit(1, 1)
	return [][]api.Scope{
		exampleScopes(), scopes(scope("a234567890_23456", limit(0, 1), limit(4096, 4096), repeated(x, 8)...)), scopes(scope("a", limit(0, 4096), one, x), scope("b", one, one, x), scope("aa", one, one, x), scope("a_", one, one, [3]int{0, 0, -1})),
		scopes(scope("a", limit(2, 4), limit(4095, 4096), [3]int{1000, -1000, 1000}, [3]int{0, 0, -1000}), scope("b", one, one, [3]int{0, 1, 0}, [3]int{0, 1, 0})),
	}
}

// wrongScopes are no telescopes because of one thing each.
func wrongScopes() [][]api.Scope {
	x, y, one := [3]int{1, 0, 0}, [3]int{0, 1, 0}, limit(1, 1)
	three := func() []api.Scope {
		return scopes(scope("a", one, one, x, y), scope("b", one, one, x, y), scope("c", one, one, x, y))
	}
	l := [][]api.Scope{nil, {}, {{}}, make([]api.Scope, 2), append(validScopes()[2], scope("more", one, one, x)), append(three(), three()[0]), append(three(), three()[2]), scopes(three()[0], three()[0]), make([]api.Scope, 1000)}
	change := func(do func(*api.Scope)) {
		for i := range 3 {
			wrong := three()
			do(&wrong[i])
			l = append(l, wrong)
		}
		alone := three()[:1]
		do(&alone[0])
		l = append(l, alone)
	}
	for _, name := range wrongNames() {
		change(func(s *api.Scope) { s.Name = name })
	}
	for _, wrong := range []api.Limit{{}, limit(0, 0), limit(1, 0), limit(2, 1), limit(-1, 1), limit(-1, -1), limit(1, -1), limit(0, -1), limit(0, 4097), limit(1, 4097), limit(4097, 4097), limit(4097, 4096), limit(-1, 4096), limit(0, 1<<62), limit(1<<62, 1<<62), limit(-1<<63, 1), limit(-1<<63, -1<<63), limit(1<<63-1, 4096)} {
		change(func(s *api.Scope) { s.Field = wrong })
		change(func(s *api.Scope) { s.Low = wrong })
	}
	for i := range 2 {
		change(func(s *api.Scope) { s.Zeniths[i] = [3]int{} })
		for axis := range 3 {
			for _, n := range beyond(-1000, 1000) {
				change(func(s *api.Scope) { s.Zeniths[i][axis] = n })
			}
		}
	}
	change(func(s *api.Scope) { s.Zeniths = nil })
	change(func(s *api.Scope) { s.Zeniths = [][3]int{} })
	change(func(s *api.Scope) { s.Zeniths = repeated(x, 9) })
	for i := range 3 {
		for _, many := range list(1, 3, 8) {
			wrong := three()
			wrong[i].Zeniths = repeated(x, many)
			l = append(l, wrong)
		}
	}
	all := three()
	for i := range all {
		all[i].Zeniths = repeated(x, 9)
	}
	return append(l, all)
}

// P9.5: which lists are telescopes.
func TestCheckScopes(t *testing.T) {
	for _, l := range validScopes() {
		hasError(t, fmt.Sprint(l), CheckScopes(l), api.OK)
	}
	for _, l := range wrongScopes() {
		hasError(t, fmt.Sprint(l), CheckScopes(l), api.ErrScope)
	}
}

// scopeErrors calls all functions with telescopes.
func scopeErrors(t *testing.T, l []api.Scope, n, turn int, weights, cells []int, want api.Errno) {
	t.Helper()
	what := fmt.Sprint(l, n, turn, len(weights), cells)
	seen, e := Sees(l, turn, 0, n)
	isList(t, what, seen, e, nil, want)
	covered, e := Covers(l, n, api.Look{Turn: turn})
	isList(t, what, covered, e, nil, want)
	gain, e := Gain(l, n, weights, cells, looks(turn, 0, 0))
	is(t, what, gain, e, 0, want)
	plan, gain, e := Plan(l, n, weights, cells)
	isList(t, what, plan, e, nil, want)
	is(t, what, gain, e, 0, want)
}

// P9.5: ErrScope comes first, then ErrGrid, which comes before wrong weights, turns and plans.
func TestErrorsOfScopes(t *testing.T) {
	for _, l := range wrongScopes() {
		scopeErrors(t, l, 1, 0, exampleWeights(), upTo(6), api.ErrScope)
		scopeErrors(t, l, 9, 0, exampleWeights(), upTo(6), api.ErrScope)
		scopeErrors(t, l, 0, -1, nil, list(-1), api.ErrScope)
		scopeErrors(t, l, 1, 9, exampleWeights(), list(1, 0), api.ErrScope)
	}
	for _, l := range validScopes() {
		for _, n := range wrongGrids() {
			scopeErrors(t, l, n, 0, exampleWeights(), upTo(6), api.ErrGrid)
			scopeErrors(t, l, n, -1, exampleWeights(), upTo(6), api.ErrGrid)
			scopeErrors(t, l, n, 9, nil, list(-1), api.ErrGrid)
		}
	}
}

// P9.5: which turns and telescopes there are not, and at which cells nobody can look.
func TestErrorsOfLooks(t *testing.T) {
	for _, l := range validScopes() {
		wrong := func(turn, scope, cell int) {
			t.Helper()
			covered, e := Covers(l, 2, api.Look{Turn: turn, Scope: scope, Cell: cell})
			isList(t, fmt.Sprint(l, turn, scope, cell), covered, e, nil, api.ErrScope)
		}
		wrongTurn := func(turn, scope int) {
			t.Helper()
			seen, e := Sees(l, turn, scope, 2)
			isList(t, fmt.Sprint(l, turn, scope), seen, e, nil, api.ErrScope)
			for _, cell := range list(0, 1, 4, 23) {
				wrong(turn, scope, cell)
			}
		}
		for _, n := range beyond(0, len(l[0].Zeniths)-1) {
			wrongTurn(n, 0)
			wrongTurn(n, len(l)-1)
		}
		for _, n := range beyond(0, len(l)-1) {
			wrongTurn(0, n)
			wrongTurn(n, n)
		}
		for _, cell := range wrongCells(2) {
			wrong(0, 0, cell)
			wrong(len(l[0].Zeniths)-1, len(l)-1, cell)
		}
	}
	for cell := range 6 {
		covered, e := Covers(exampleScopes(), 1, api.Look{Cell: cell})
		want, wantError := []int(nil), api.ErrScope
		if cell == 0 {
			want, wantError = list(0), api.OK
		}
		isList(t, fmt.Sprint(cell), covered, e, want, wantError)
	}
}

// P9.5: the example, and limits that are just reached.
func TestSees(t *testing.T) {
	for _, c := range []struct {
		low    api.Limit
		zenith [3]int
		n      int
		want   []int
	}{
		{limit(0, 1), [3]int{1, 0, 0}, 1, list(0)}, {limit(1, 1), [3]int{1, 0, 0}, 1, list(0)}, {limit(1, 1), [3]int{-1000, 0, 0}, 1, list(1)}, {limit(0, 1), [3]int{1, 1, 0}, 1, list(0, 2)}, {limit(0, 1), [3]int{1, -1, 1}, 1, list(0, 3, 4)}, {limit(0, 1), [3]int{-1, -1, -1}, 1, list(1, 3, 5)},
		{limit(1, 2), [3]int{1, 1, 0}, 1, list(0, 2)}, {limit(2049, 4096), [3]int{1, 1, 0}, 1, nil}, {limit(2048, 4096), [3]int{1000, 1000, 0}, 1, list(0, 2)}, {limit(1, 3), [3]int{7, 7, 7}, 1, list(0, 2, 4)}, {limit(1366, 4096), [3]int{7, 7, 7}, 1, nil}, {limit(1365, 4096), [3]int{7, 7, 7}, 1, list(0, 2, 4)},
		// 3 4 0 is as long as 5.
		{limit(9, 25), [3]int{3, 4, 0}, 1, list(0, 2)}, {limit(10, 25), [3]int{3, 4, 0}, 1, list(2)}, {limit(16, 25), [3]int{3, 4, 0}, 1, list(2)}, {limit(17, 25), [3]int{3, 4, 0}, 1, nil}, {limit(0, 7), [3]int{3, -4, 0}, 1, list(0, 3)},
		{limit(0, 1), [3]int{1, 0, 0}, 2, list(0, 1, 2, 3, 10, 11, 14, 15, 18, 19, 22, 23)}, {limit(1, 6), [3]int{1, 0, 0}, 2, list(0, 1, 2, 3, 10, 11, 14, 15, 18, 19, 22, 23)}, {limit(1, 5), [3]int{1, 0, 0}, 2, list(0, 1, 2, 3)}, {limit(2, 3), [3]int{1, 0, 0}, 2, list(0, 1, 2, 3)}, {limit(3, 4), [3]int{1, 0, 0}, 2, nil}, {limit(1, 1), [3]int{998, -499, 499}, 2, list(1)},
	} {
		l := scopes(scope("a", limit(1, 1), limit(1, 1), [3]int{0, 0, 1}, [3]int{0, 0, 1}), scope("b", limit(0, 1), c.low, [3]int{0, 0, -1}, c.zenith))
		what := fmt.Sprint(c.low, c.zenith, c.n)
		seen, e := Sees(l, 1, 1, c.n)
		isList(t, what, seen, e, c.want, api.OK)
		isList(t, what, seen, e, modelSees(l[1], 1, c.n), api.OK)
	}
}

// P9.5: what is covered is seen, and near the cell.
func TestCovers(t *testing.T) {
	x, y := [3]int{1, 0, 0}, [3]int{1, 1, 0}
	for _, c := range []struct {
		field, low api.Limit
		zenith     [3]int
		n, cell    int
		want       []int
	}{
		{limit(1, 2), limit(0, 1), x, 1, 0, list(0)}, {limit(0, 1), limit(0, 1), y, 1, 0, list(0)}, {limit(0, 1), limit(0, 1), y, 1, 2, list(2)},
		{limit(0, 1), limit(0, 1), x, 2, 0, list(0, 1, 2, 3, 10, 14, 15, 18, 22, 23)}, {limit(1, 1), limit(0, 1), x, 2, 0, list(0)}, {limit(4, 9), limit(0, 1), x, 2, 0, list(0, 1, 2, 14, 22)}, {limit(25, 36), limit(0, 1), x, 2, 0, list(0, 14, 22)}, {limit(26, 36), limit(0, 1), x, 2, 0, list(0)}, {limit(17, 36), limit(0, 1), x, 2, 0, list(0, 14, 22)},
		{limit(0, 1), limit(1, 5), x, 2, 0, list(0, 1, 2, 3)}, {limit(4, 9), limit(1, 5), x, 2, 0, list(0, 1, 2)}, {limit(4, 9), limit(1, 5), x, 2, 3, list(1, 2, 3)},
	} {
		l := scopes(scope("a", limit(1, 1), limit(0, 1), x, x), scope("b", c.field, c.low, [3]int{0, 0, -1}, c.zenith))
		look := api.Look{Turn: 1, Scope: 1, Cell: c.cell}
		what := fmt.Sprint(c)
		covered, e := Covers(l, c.n, look)
		isList(t, what, covered, e, c.want, api.OK)
		isList(t, what, covered, e, modelCovers(l, c.n, look), api.OK)
	}
}

// P9.5: as the definitions say.
func TestRandomScopes(t *testing.T) {
	r := rand.New(rand.NewSource(1))
	some := 0
	for range 1000 {
		l, n := randomScopes(r, 4, 8), randomGrid(r)
		hasError(t, fmt.Sprint(l), CheckScopes(l), api.OK)
		look := api.Look{Turn: r.Intn(len(l[0].Zeniths)), Scope: r.Intn(len(l))}
		what := fmt.Sprint(l, n, look)
		seen, e := Sees(l, look.Turn, look.Scope, n)
		isList(t, what, seen, e, modelSees(l[look.Scope], look.Turn, n), api.OK)
		if len(seen) == 0 {
			continue
		}
		look.Cell = pick(r, seen...)
		covered, e := Covers(l, n, look)
		isList(t, what, covered, e, modelCovers(l, n, look), api.OK)
		if 1 < len(covered) && len(covered) < len(seen) {
			some++
		}
	}
	if some < 200 {
		t.Errorf("%d with some cells", some)
	}
}
