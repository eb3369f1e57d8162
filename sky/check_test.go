package sky

import (
	"math/rand"
	"reflect"
	"slices"
	"testing"

	"ringdown/api"
)

// arguments are what all functions are called with.
type arguments struct {
	n, cell, turn, scope int
	v                    [3]int
	sites                []api.Site
	arrived              []api.Arrival
	least, part          api.Num
	weights, cells       []int
	scopes               []api.Scope
	look                 api.Look
	plan                 []api.Look
}

func randomArguments(seed int64) arguments {
	r := rand.New(rand.NewSource(seed))
	a := arguments{n: 1 + r.Intn(3), v: randomNonzero(r, 9), sites: randomNet(r), least: pick[api.Num](r, "0", "1/9", "-1")}
	a.cell = r.Intn(6 * a.n * a.n)
	a.arrived = randomArrivals(r, a.sites, a.n)
	a.weights, a.cells = randomWeights(r, a.n), randomSome(r, 6*a.n*a.n)
	a.part = randomPart(r, a.weights, a.cells)
	a.scopes = append(randomScopes(r, 3, 3), scope("all", limit(1, 9), limit(0, 1)))
	last := len(a.scopes) - 1
	// So that there is a look of which it can be asked.
	a.scopes[last].Zeniths = repeated([3]int{1, 2, 3}, len(a.scopes[0].Zeniths))
	a.turn, a.scope = r.Intn(len(a.scopes[0].Zeniths)), r.Intn(last)
	a.look = api.Look{Turn: a.turn, Scope: last, Cell: pick(r, modelSees(a.scopes[last], a.turn, a.n)...)}
	a.plan = randomPlan(r, a.scopes, a.n)
	return a
}

// results are those of all functions, and their errors.
func results(a arguments) []any {
	var all []any
	two := func(x any, e api.Errno) { all = append(all, x, e) }
	all = append(all, CheckNet(a.sites), CheckScopes(a.scopes))
	two(Cells(a.n))
	two(Direction(a.n, a.cell))
	two(CellOf(a.n, a.v))
	l, e := Arrive(a.sites, a.n, a.cell)
	two(l, e)
	l, e = Ring(a.sites, a.n, 0, 1, 0, 2)
	two(l, e)
	l, e = Fits(a.sites, a.n, a.arrived)
	two(l, e)
	g, e := Grasp(a.sites, a.n, a.cell)
	two(g, e)
	l, e = Heard(a.sites, a.n, a.cell, a.least)
	two(l, e)
	l, e = Credible(a.n, a.weights, a.cells, a.part)
	two(l, e)
	l, e = Credible(a.n, a.weights, a.cells, "1")
	two(l, e)
	l, e = Sees(a.scopes, a.turn, a.scope, a.n)
	two(l, e)
	l, e = Covers(a.scopes, a.n, a.look)
	two(l, e)
	two(Gain(a.scopes, a.n, a.weights, a.cells, a.plan))
	plan, gain, e := Plan(a.scopes, a.n, a.weights, a.cells)
	two(plan, e)
	return append(all, gain)
}

// spoil overwrites all lists of results, also behind their ends.
func spoil(all []any) {
	for _, a := range all {
		switch l := a.(type) {
		case []int:
			fill(l, 77)
		case []api.Num:
			fill(l, "x")
		case []api.Look:
			fill(l, api.Look{Turn: 77})
		}
	}
}

func fill[T any](l []T, x T) {
	l = l[:cap(l)]
	for i := range l {
		l[i] = x
	}
}

// P9.7, P1, P2: arguments are neither changed nor kept, and results are the same each time, whatever is done with those before.
func TestArgumentsAndResults(t *testing.T) {
	for seed := range int64(300) {
		a := randomArguments(seed)
		first := results(a)
		if !reflect.DeepEqual(a, randomArguments(seed)) {
			t.Fatalf("%v: arguments were changed", randomArguments(seed))
		}
		for i, x := range first {
			if e, ok := x.(api.Errno); ok && e != api.OK {
				t.Fatalf("%v: result %d: %d", a, i, e)
			}
		}
		spoil(first)
		if !reflect.DeepEqual(a, randomArguments(seed)) {
			t.Fatalf("%v: results share memory with arguments", randomArguments(seed))
		}
		if second, third := results(a), results(randomArguments(seed)); !reflect.DeepEqual(second, third) {
			t.Fatalf("%v, %v", second, third)
		}
	}
}

// behind returns a list with the same elements, and room for others behind them that are x.
func behind[T any](l []T, x T) []T {
	many := len(l)
	l = append(slices.Clone(l), slices.Repeat([]T{x}, 20)...)
	return l[:many]
}

func isBehind[T any](l []T, x T) bool {
	return !slices.ContainsFunc(l[:len(l)+20][len(l):], func(y T) bool { return !reflect.DeepEqual(x, y) })
}

// P9.7: what is behind the end of an argument is not changed either, nor is it in a result.
func TestBehindArguments(t *testing.T) {
	for seed := range int64(100) {
		a := randomArguments(seed)
		want := results(a)
		a.sites, a.arrived, a.weights, a.cells = behind(a.sites, api.Site{}), behind(a.arrived, api.Arrival{Site: -5}), behind(a.weights, 5), behind(a.cells, 5)
		a.scopes, a.plan = behind(a.scopes, api.Scope{}), behind(a.plan, api.Look{Turn: -5})
		for i := range a.scopes {
			a.scopes[i].Zeniths = behind(a.scopes[i].Zeniths, [3]int{})
		}
		got := results(a)
		if !reflect.DeepEqual(got, want) {
			t.Fatalf("%v, not %v", got, want)
		}
		spoil(got)
		isKept := isBehind(a.sites, api.Site{}) && isBehind(a.arrived, api.Arrival{Site: -5}) && isBehind(a.weights, 5) && isBehind(a.cells, 5) && isBehind(a.scopes, api.Scope{}) && isBehind(a.plan, api.Look{Turn: -5})
		for _, s := range a.scopes {
			isKept = isKept && isBehind(s.Zeniths, [3]int{})
		}
		if !isKept {
			t.Fatalf("%v: something behind was changed", a)
		}
	}
}

// R3: nil and empty arguments are the same.
func TestNilAndEmpty(t *testing.T) {
	hasError(t, "CheckNet", CheckNet([]api.Site{}), api.ErrNet)
	hasError(t, "CheckScopes", CheckScopes([]api.Scope{}), api.ErrScope)
	for _, none := range lists(nil, list()) {
		l, e := Credible(1, exampleWeights(), none, "1/2")
		isList(t, "Credible", l, e, nil, api.OK)
		l, e = Credible(1, none, none, "1/2")
		isList(t, "Credible", l, e, nil, api.ErrWeight)
		for _, plan := range [][]api.Look{nil, {}} {
			gain, e := Gain(exampleScopes(), 1, exampleWeights(), none, plan)
			is(t, "Gain", gain, e, 0, api.OK)
		}
		plan, gain, e := Plan(exampleScopes(), 1, exampleWeights(), none)
		isList(t, "Plan", plan, e, nil, api.OK)
		is(t, "Plan", gain, e, 0, api.OK)
	}
	for _, none := range [][]api.Arrival{nil, {}} {
		l, e := Fits(exampleNet(), 1, none)
		isList(t, "Fits", l, e, nil, api.ErrArrival)
	}
}
