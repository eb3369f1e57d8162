package run

import (
	"math/rand"
	"reflect"
	"slices"
	"testing"

	"ringdown/api"
)

// arguments are what all functions are called with.
type arguments struct {
	p     api.Plan
	r     api.Recipe
	waves []api.Wave
}

func randomArguments(seed int64) arguments {
	random := rand.New(rand.NewSource(seed))
	p, r := randomRun(random)
	p.Work = segments(p.Duties[0].From, p.Duties[0].From+1)
	p.Vetoes[0] = append(p.Vetoes[0], veto("far", 200, 300))
	// So that there are entries: both detectors hear the same.
	p.Vetoes[1], p.Data[1] = p.Vetoes[0], p.Data[0]
	r.Floor, r.Misfit, r.Limit, r.Near = 0, 1<<40, len(p.Data[0])/r.Step, len(p.Data[0])-1
	return arguments{p: copied(p), r: r, waves: []api.Wave{{At: 0, Gain: 1, Samples: list(1, 2)}, {At: 1, Gain: 1, Samples: list(0)}}}
}

// results are those of all functions and methods, and their errors.
func results(x arguments) []any {
	var all []any
	two := func(result any, e api.Errno) { all = append(all, result, e) }
	all = append(all, Check(x.p), CheckRecipe(x.p, x.r))
	who, e := Watcher(x.p, 1)
	two(who, e)
	quiet, e := Quiet(x.p, 1)
	two(quiet, e)
	ready, e := Ready(x.p, 0, 2)
	two(ready, e)
	tallies, e := Duty(x.p)
	two(tallies, e)
	found, e := Triggers(x.p, x.r, 1)
	two(found, e)
	statistics, e := Statistics(x.p, x.r)
	two(statistics, e)
	entries, e := Catalogue(x.p, x.r)
	two(entries, e)
	two(Stamp(x.p, x.r))
	noise, e := Noise(x.r.Version, 9, 3)
	two(noise, e)
	waves, e := Challenge(x.r.Version, 20, 4, 5)
	two(waves, e)
	with, e := Inject(x.p, 1, x.waves)
	two(with, e)
	a, e := NewArchive(x.p)
	all = append(all, e)
	two(a.Publish(x.r))
	other := x.r
	other.Limit = 0
	two(a.Publish(other))
	issue, e := a.Issue(0)
	two(issue, e)
	all = append(all, a.Again(0, x.p))
	change, e := a.Change(0, 1)
	two(change, e)
	change, e = a.Change(1, 0)
	two(change, e)
	return all
}

// spoil overwrites all lists in a value, also behind their ends.
func spoil(v reflect.Value) {
	switch v.Kind() {
	case reflect.Interface:
		spoil(v.Elem())
	case reflect.Struct:
		for i := range v.NumField() {
			spoil(v.Field(i))
		}
	case reflect.Array:
		for i := range v.Len() {
			spoil(v.Index(i))
		}
	case reflect.Slice:
		v = v.Slice(0, v.Cap())
		for i := range v.Len() {
			spoil(v.Index(i))
			v.Index(i).SetZero()
		}
	}
}

func spoilAll(all ...any) {
	for _, x := range all {
		spoil(reflect.ValueOf(x))
	}
}

// P11.7, P1, P2: arguments are neither changed nor kept, and results are the same each time, whatever is done with those before.
func TestArgumentsAndResults(t *testing.T) {
	full := 0
	for seed := range int64(200) {
		x := randomArguments(seed)
		first := results(x)
		if !reflect.DeepEqual(x, randomArguments(seed)) {
			t.Fatalf("%v: arguments were changed", randomArguments(seed))
		}
		for i, result := range first {
			if e, ok := result.(api.Errno); ok && e != api.OK {
				t.Fatalf("%v: result %d: %d", x, i, e)
			}
			if change, ok := result.(api.Change); ok && len(change.Gone) > 0 {
				full++
			}
		}
		spoilAll(first...)
		if !reflect.DeepEqual(x, randomArguments(seed)) {
			t.Fatalf("%v: results share memory with arguments", randomArguments(seed))
		}
		if second, third := results(x), results(randomArguments(seed)); !reflect.DeepEqual(second, third) {
			t.Fatalf("%v, %v", second, third)
		}
	}
	if full < 50 {
		t.Errorf("only %d changes have entries", full)
	}
}

// behind returns a list with the same elements, and room behind them.
func behind[T any](l []T) []T {
	room := slices.Concat(l, make([]T, 20))
	return room[:len(l)]
}

func isBehind[T any](l []T) bool {
	return !slices.ContainsFunc(l[:len(l)+20][len(l):], func(y T) bool { return !reflect.ValueOf(y).IsZero() })
}

// P11.7: what is behind the end of an argument is not changed either.
func TestBehindArguments(t *testing.T) {
	for seed := range int64(100) {
		x := randomArguments(seed)
		want := results(x)
		x.p.Duties, x.p.Work, x.r.Bank, x.waves = behind(x.p.Duties), behind(x.p.Work), behind(x.r.Bank), behind(x.waves)
		for detector := range 2 {
			x.p.Data[detector], x.p.Vetoes[detector] = behind(x.p.Data[detector]), behind(x.p.Vetoes[detector])
			for i, v := range x.p.Vetoes[detector] {
				x.p.Vetoes[detector][i].Segments = behind(v.Segments)
			}
		}
		for i := range x.waves {
			x.waves[i].Samples = behind(x.waves[i].Samples)
		}
		got := results(x)
		if !reflect.DeepEqual(plain(got), plain(want)) {
			t.Fatalf("%v, not %v", got, want)
		}
		spoilAll(got...)
		isKept := isBehind(x.p.Duties) && isBehind(x.p.Work) && isBehind(x.r.Bank) && isBehind(x.waves)
		for detector := range 2 {
			isKept = isKept && isBehind(x.p.Data[detector]) && isBehind(x.p.Vetoes[detector])
			for _, v := range x.p.Vetoes[detector] {
				isKept = isKept && isBehind(v.Segments)
			}
		}
		for _, w := range x.waves {
			isKept = isKept && isBehind(w.Samples)
		}
		if !isKept {
			t.Fatalf("%v: something behind was changed", x)
		}
	}
}

// P11.5, P11.7, R4: an archive keeps copies, and gives out copies.
func TestArchiveKeepsCopies(t *testing.T) {
	for seed := range int64(100) {
		x, y := randomArguments(seed), randomArguments(seed)
		a := newArchive(t, x.p)
		publishes(t, a, x.r, 0)
		spoilAll(x.p, x.r, x.waves)
		want := issueOf(y.p, y.r)
		for range 2 {
			issue, e := a.Issue(0)
			is(t, "Issue", issue, e, want, api.OK)
			spoilAll(issue)
			hasError(t, "Again", a.Again(0, y.p), api.OK)
		}
		// The plan is still that with which the archive was made.
		other := y.r
		other.Bank = slices.Clone(y.r.Bank)
		other.Limit = 0
		publishes(t, a, other, 1)
		for range 2 {
			change, e := a.Change(0, 1)
			is(t, "Change", change, e, api.Change{Gone: want.Entries}, api.OK)
			spoilAll(change)
			change, e = a.Change(1, 0)
			is(t, "Change", change, e, api.Change{New: want.Entries}, api.OK)
			spoilAll(change)
		}
		spoilAll(other)
		issue, e := a.Issue(1)
		other = y.r
		other.Limit = 0
		is(t, "Issue", issue, e, issueOf(y.p, other), api.OK)
		hasError(t, "Again", a.Again(1, y.p), api.OK)
	}
}

// P11.7: a plan with injections shares no memory with the one before, whether something is injected or not.
func TestInjectCopies(t *testing.T) {
	for _, waves := range [][]api.Wave{nil, {{At: 1, Gain: 2, Samples: list(3)}}} {
		for detector := range 2 {
			p := busyPlan()
			got := must[api.Plan](t)(Inject(p, detector, waves))
			want := copied(got)
			spoilAll(p)
			is(t, "Inject", got, api.OK, want, api.OK)
		}
	}
}

// P2: two archives do not know of each other.
func TestTwoArchives(t *testing.T) {
	one, other := newArchive(t, freePlan()), newArchive(t, examplePlan())
	publishes(t, one, exampleRecipe(), 0)
	issue, e := other.Issue(0)
	is(t, "Issue", issue, e, api.Issue{}, api.ErrIssue)
	publishes(t, other, exampleRecipe(), 0)
	issue, e = one.Issue(0)
	is(t, "Issue", issue, e, issueOf(freePlan(), exampleRecipe()), api.OK)
	issue, e = other.Issue(0)
	is(t, "Issue", issue, e, issueOf(examplePlan(), exampleRecipe()), api.OK)
	hasError(t, "Again", one.Again(0, examplePlan()), api.ErrStale)
	hasError(t, "Again", other.Again(0, freePlan()), api.ErrStale)
}

// R3: nil and empty arguments are the same.
func TestNilAndEmpty(t *testing.T) {
	none := freePlan()
	empty := with(none, func(p *api.Plan) {
		p.Work, p.Vetoes = []api.Segment{}, [2][]api.Veto{{}, {}}
	})
	r := exampleRecipe()
	is(t, "Stamp", must[int](t)(Stamp(empty, r)), api.OK, must[int](t)(Stamp(none, r)), api.OK)
	a := newArchive(t, none)
	publishes(t, a, r, 0)
	hasError(t, "Again", a.Again(0, empty), api.OK)
	for _, p := range []api.Plan{none, empty} {
		for _, waves := range [][]api.Wave{nil, {}} {
			with, e := Inject(p, 0, waves)
			is(t, "Inject", with, e, p, api.OK)
		}
		p.Vetoes[0] = []api.Veto{{Name: "a", Segments: []api.Segment{}}, {Name: "b"}}
		is(t, "Quiet", must[[]bool](t)(Quiet(p, 0)), api.OK, slices.Repeat([]bool{true}, 8), api.OK)
	}
	r.Bank = []api.Chirp{}
	hasError(t, "CheckRecipe", CheckRecipe(none, r), api.ErrRecipe)
	hasError(t, "Check", Check(api.Plan{Duties: []api.Duty{}, Data: [2][]int{{}, {}}}), api.ErrPlan)
}
