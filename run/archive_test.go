package run

import (
	"fmt"
	"math/rand"
	"slices"
	"testing"

	"ringdown/api"
)

func newArchive(t *testing.T, p api.Plan) *Archive {
	t.Helper()
	return must[*Archive](t)(NewArchive(p))
}

// publishes checks that a recipe becomes the issue with a number.
func publishes(t *testing.T, a *Archive, r api.Recipe, want int) {
	t.Helper()
	number, e := a.Publish(r)
	is(t, "Publish", number, e, want, api.OK)
}

// issueOf is the one that the definitions say.
func issueOf(p api.Plan, r api.Recipe) api.Issue {
	return api.Issue{Version: r.Version, Stamp: modelStamp(p, r), Entries: modelCatalogue(p, r)}
}

// fails checks that all methods return an error, and nothing besides.
func fails(t *testing.T, a *Archive, want api.Errno) {
	t.Helper()
	for _, i := range list(0, -1, 1<<62) {
		for _, r := range []api.Recipe{exampleRecipe(), {}} {
			number, e := a.Publish(r)
			is(t, "Publish", number, e, 0, want)
		}
		issue, e := a.Issue(i)
		is(t, "Issue", issue, e, api.Issue{}, want)
		hasError(t, "Again", a.Again(i, examplePlan()), want)
		hasError(t, "Again", a.Again(i, api.Plan{}), want)
		change, e := a.Change(i, i)
		is(t, "Change", change, e, api.Change{}, want)
	}
}

// P11.5, R3: nil and zero archives, and those that no function returned.
func TestNoArchive(t *testing.T) {
	fails(t, nil, api.ErrNil)
	fails(t, &Archive{}, api.ErrNil)
	made := newArchive(t, freePlan())
	publishes(t, made, exampleRecipe(), 0)
	other := *made
	fails(t, &other, api.ErrNil)
	issue, e := made.Issue(0)
	is(t, "Issue", issue, e, issueOf(freePlan(), exampleRecipe()), api.OK)
	*made = Archive{}
	fails(t, made, api.ErrNil)
}

// P11.5: issues have numbers from 0 on.
func TestPublish(t *testing.T) {
	a := newArchive(t, freePlan())
	for i, r := range validRecipes() {
		publishes(t, a, r, i)
		// An error changes nothing.
		number, e := a.Publish(wrongRecipes()[i])
		is(t, "Publish", number, e, 0, api.ErrRecipe)
	}
	for i, r := range validRecipes() {
		issue, e := a.Issue(i)
		is(t, fmt.Sprint("Issue ", i), issue, e, issueOf(freePlan(), r), api.OK)
		hasError(t, fmt.Sprint("Again ", i), a.Again(i, freePlan()), api.OK)
	}
}

// P11.5, P11.6: ErrIssue where there is no issue.
func TestNoIssue(t *testing.T) {
	a := newArchive(t, freePlan())
	for many := range 3 {
		for _, i := range append(beyond(0, many-1), many, many+1, 31, 32) {
			issue, e := a.Issue(i)
			is(t, "Issue", issue, e, api.Issue{}, api.ErrIssue)
			for _, p := range []api.Plan{freePlan(), {}} {
				hasError(t, "Again", a.Again(i, p), api.ErrIssue)
			}
			for k := range many {
				change, e := a.Change(i, k)
				is(t, "Change", change, e, api.Change{}, api.ErrIssue)
				change, e = a.Change(k, i)
				is(t, "Change", change, e, api.Change{}, api.ErrIssue)
			}
			change, e := a.Change(i, i)
			is(t, "Change", change, e, api.Change{}, api.ErrIssue)
		}
		publishes(t, a, exampleRecipe(), many)
	}
}

// P11.5: there are at most 32 issues; ErrRecipe comes before ErrFull.
func TestFull(t *testing.T) {
	a := newArchive(t, freePlan())
	for i := range 32 {
		publishes(t, a, recipe(func(r *api.Recipe) { r.Version = 100 - i }), i)
	}
	number, e := a.Publish(exampleRecipe())
	is(t, "Publish", number, e, 0, api.ErrFull)
	for _, r := range wrongRecipes() {
		number, e := a.Publish(r)
		is(t, "Publish", number, e, 0, api.ErrRecipe)
	}
	for i := range 32 {
		issue, e := a.Issue(i)
		is(t, "Issue", issue, e, issueOf(freePlan(), recipe(func(r *api.Recipe) { r.Version = 100 - i })), api.OK)
	}
	issue, e := a.Issue(32)
	is(t, "Issue", issue, e, api.Issue{}, api.ErrIssue)
}

// P11.10: in whatever order things are published, they are what Catalogue returns.
func TestPublishedInAnyOrder(t *testing.T) {
	random := rand.New(rand.NewSource(1))
	for range 30 {
		p, _ := randomRun(random)
		recipes := recipesFor(random, p, 6)
		a := newArchive(t, p)
		order := random.Perm(len(recipes))
		for number, i := range order {
			publishes(t, a, recipes[i], number)
		}
		for number, i := range order {
			issue, e := a.Issue(number)
			is(t, "Issue", issue, e, issueOf(p, recipes[i]), api.OK)
			is(t, "Entries", issue.Entries, e, must[[]api.Entry](t)(Catalogue(p, recipes[i])), api.OK)
			is(t, "Stamp", issue.Stamp, e, must[int](t)(Stamp(p, recipes[i])), api.OK)
			hasError(t, "Again", a.Again(number, p), api.OK)
		}
	}
}

// recipesFor are valid recipes for a plan.
func recipesFor(r *rand.Rand, p api.Plan, many int) []api.Recipe {
	var l []api.Recipe
	for len(l) < many {
		if _, other := randomRun(r); CheckRecipe(p, other) == api.OK {
			l = append(l, other)
		}
	}
	return l
}

// P11.6, P11.10: Again tells whatever is changed.
func TestAgain(t *testing.T) {
	a := newArchive(t, busyPlan())
	for i, r := range changedRecipes() {
		publishes(t, a, r, i)
	}
	for i := range changedRecipes() {
		hasError(t, "Again", a.Again(i, busyPlan()), api.OK)
		for k, c := range changesOfPlans() {
			p := with(busyPlan(), c)
			hasError(t, fmt.Sprint("valid ", k), Check(p), api.OK)
			hasError(t, fmt.Sprint("Again ", i, k), a.Again(i, p), api.ErrStale)
		}
		hasError(t, "Again", a.Again(i, api.Plan{}), api.ErrStale)
	}
	changes, _ := wrong()
	for _, c := range slices.Concat(changes...) {
		hasError(t, "Again", a.Again(0, with(busyPlan(), c)), api.ErrStale)
	}
}

// P11.10: one sample that is changed, by whatever it is.
func TestAgainOfSamples(t *testing.T) {
	random := rand.New(rand.NewSource(2))
	for range 30 {
		p, r := randomRun(random)
		a := newArchive(t, p)
		publishes(t, a, r, 0)
		for range 100 {
			changed := copied(p)
			n := &changed.Data[random.Intn(2)][random.Intn(len(p.Data[0]))]
			before := *n
			*n = pick(random, before-1, before+1, randomNumber(random, 4096), 4096, -4096)
			if *n != before {
				hasError(t, "Again", a.Again(0, changed), api.ErrStale)
			}
		}
		hasError(t, "Again", a.Again(0, p), api.OK)
	}
}

// P11.6: a plan with the stamp of another one is told by its entries.
func TestAgainOfEntries(t *testing.T) {
	r := exampleRecipe()
	a := newArchive(t, freePlan())
	publishes(t, a, r, 0)
	stamp := modelStamp(freePlan(), r)
	same := restamped(with(freePlan(), func(p *api.Plan) { p.Data[0][6] = 1 }), r, stamp)
	is(t, "entries", modelCatalogue(same, r), api.OK, modelCatalogue(freePlan(), r), api.OK)
	hasError(t, "the same entries and stamp", a.Again(0, same), api.OK)
	for _, c := range []change{
		// Without entries, with a louder one, with one at another time, and with another chance.
		func(p *api.Plan) { p.Data[0][1], p.Data[0][3] = 0, 0 },
		func(p *api.Plan) { p.Data[0][1], p.Data[0][3] = 254, -254 },
		func(p *api.Plan) { p.Data[0] = list(0, 0, 127, 0, -127, 0, 0, 0) },
		func(p *api.Plan) { p.Work = segments(4, 5) },
	} {
		other := restamped(with(freePlan(), c), r, stamp)
		hasError(t, "Check", Check(other), api.OK)
		hasError(t, "Again", a.Again(0, other), api.ErrStale)
	}
}

// P11.6: what is no plan, or has other samples than the recipe needs, is told also if the stamp and the entries would be the same.
func TestAgainOfWrongPlans(t *testing.T) {
	r := recipe(func(r *api.Recipe) { r.Floor = 1 << 16 })
	a := newArchive(t, freePlan())
	publishes(t, a, r, 0)
	stamp := modelStamp(freePlan(), r)
	changes, _ := wrong()
	for kind, l := range changes[:3] {
		for _, c := range l {
			other := restamped(with(freePlan(), c), r, stamp)
			hasError(t, fmt.Sprint("Again ", kind), a.Again(0, other), api.ErrStale)
		}
	}
	for _, c := range wrongVetoes() {
		// One that is restamped has a veto of detector 0.
		other := restamped(with(freePlan(), c), r, stamp)
		if len(other.Vetoes[1]) > 0 {
			hasError(t, "Again", a.Again(0, other), api.ErrStale)
		}
	}
	for _, samples := range list(3, 4, 7, 9, 10, 12) {
		p := even(samples, 100)
		want := api.ErrStale
		if CheckRecipe(p, r) == api.OK {
			want = api.OK
		}
		hasError(t, fmt.Sprint("Again ", samples), a.Again(0, restamped(p, r, stamp)), want)
	}
}

// P11.6: what changed, in order; entries with another chance are others.
func TestChange(t *testing.T) {
	p := with(freePlan(), func(p *api.Plan) {
		p.Data[0] = list(0, 127, 0, -127, 0, 127, 0, -127)
		p.Data[1] = list(0, 254, 0, -254, 0, 127, 0, -127)
	})
	entry := func(a, b, loud, n, of int) api.Entry {
		return api.Entry{A: a, B: b, Loud: loud, Chance: chanceOf(n, of)}
	}
	const loud, louder = 2 * 32258, 5 * 32258
	all := []api.Entry{entry(0, 0, louder, 1, 1), entry(0, 4, loud, 1, 1), entry(4, 0, louder, 1, 1), entry(4, 4, loud, 1, 1)}
	near := []api.Entry{all[0], all[3]}
	judged := []api.Entry{entry(0, 0, louder, 2, 2), entry(4, 4, loud, 2, 2)}
	a := newArchive(t, p)
	for i, r := range []api.Recipe{
		recipe(func(r *api.Recipe) { r.Step, r.Limit = 8, 1 }),
		recipe(func(r *api.Recipe) { r.Step, r.Limit, r.Near = 8, 1, 0 }),
		recipe(func(r *api.Recipe) { r.Near = 0 }),
		recipe(func(r *api.Recipe) { r.Floor = 1 << 16 }),
	} {
		publishes(t, a, r, i)
	}
	changes := func(i, k int, gone, new []api.Entry) {
		t.Helper()
		change, e := a.Change(i, k)
		is(t, fmt.Sprint("Change ", i, k), change, e, api.Change{Gone: gone, New: new}, api.OK)
	}
	changes(0, 0, nil, nil)
	changes(0, 1, all[1:3], nil)
	changes(1, 0, nil, all[1:3])
	changes(1, 2, near, judged)
	changes(2, 0, judged, all)
	changes(0, 3, all, nil)
	changes(3, 2, nil, judged)
	changes(3, 3, nil, nil)
}

// P11.6, P11.11: changes compared with the definition; in the other direction both lists are exchanged.
func TestChanges(t *testing.T) {
	random := rand.New(rand.NewSource(3))
	both := 0
	for range 60 {
		p, r := randomRun(random)
		recipes := append(recipesFor(random, p, 2), r)
		for _, near := range list(0, 1, 2, len(p.Data[0])-1) {
			r.Near = near
			r.Limit = len(p.Data[0]) / r.Step
			recipes = append(recipes, r)
			r.Misfit, r.Window = pick(random, 0, 1<<20, 1<<40), pick(random, 2, 9)
			recipes = append(recipes, r)
		}
		a := newArchive(t, p)
		var entries [][]api.Entry
		for i, r := range recipes {
			publishes(t, a, r, i)
			entries = append(entries, modelCatalogue(p, r))
		}
		for i := range recipes {
			for k := range recipes {
				want := api.Change{Gone: modelLess(entries[i], entries[k]), New: modelLess(entries[k], entries[i])}
				change, e := a.Change(i, k)
				is(t, "Change", change, e, want, api.OK)
				back, e := a.Change(k, i)
				is(t, "Change", back, e, api.Change{Gone: want.New, New: want.Gone}, api.OK)
				if len(want.Gone) > 1 && len(want.New) > 1 {
					both++
				}
			}
			change, e := a.Change(i, i)
			is(t, "Change", change, e, api.Change{}, api.OK)
		}
	}
	if both < 20 {
		t.Errorf("only %d changes have several entries that are gone, and several new ones", both)
	}
}

// P1: archives of many entries.
func TestGreatArchive(t *testing.T) {
	p := even(512, 128)
	for detector := range 2 {
		for i := range 512 {
			p.Data[detector][i] = list(0, 4096, 0, -4096)[i%4]
		}
	}
	r := api.Recipe{Version: 1, Length: 4, Bank: chirps(48, 0, 16, 0), Variance: 1, Window: 2, Parts: 1, Misfit: 1 << 40, Near: 511, Step: 512, Limit: 1}
	a := newArchive(t, p)
	for i := range 32 {
		r.Near = 511 - 16*i
		publishes(t, a, r, i)
	}
	change := must[api.Change](t)(a.Change(0, 31))
	before, after := must[api.Issue](t)(a.Issue(0)), must[api.Issue](t)(a.Issue(31))
	if len(change.New) > 0 || len(change.Gone) != len(before.Entries)-len(after.Entries) || len(change.Gone) < 10000 {
		t.Errorf("Change: %d, %d of %d, %d", len(change.Gone), len(change.New), len(before.Entries), len(after.Entries))
	}
	hasError(t, "Again", a.Again(0, p), api.OK)
}
