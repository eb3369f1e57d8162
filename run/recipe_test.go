package run

import (
	"fmt"
	"math/rand"
	"slices"
	"testing"

	"ringdown/api"
)

// recipe is that of the example with a change.
func recipe(do func(r *api.Recipe)) api.Recipe {
	r := exampleRecipe()
	do(&r)
	return r
}

// manyChirps are so many that are not silent.
func manyChirps(many int) []api.Chirp {
	var l []api.Chirp
	for i := range many {
		l = append(l, api.Chirp{P: i, Q: 1})
	}
	return l
}

// validRecipes are valid for the example plan just yet.
func validRecipes() []api.Recipe {
	return []api.Recipe{
		exampleRecipe(),
		recipe(func(r *api.Recipe) { r.Version = 1 << 30 }),
		recipe(func(r *api.Recipe) { r.Length = 8 }),
		recipe(func(r *api.Recipe) { r.Length, r.Parts = 8, 8 }),
		recipe(func(r *api.Recipe) { r.Length, r.Parts = 7, 7 }),
		recipe(func(r *api.Recipe) { r.Length = 5 }),
		recipe(func(r *api.Recipe) { r.Bank = manyChirps(64) }),
		recipe(func(r *api.Recipe) { r.Bank = chirps(16, 0, 48, 32) }),
		recipe(func(r *api.Recipe) { r.Variance = 1 << 20 }),
		recipe(func(r *api.Recipe) { r.Floor = 0 }),
		recipe(func(r *api.Recipe) { r.Floor = 1 << 16 }),
		recipe(func(r *api.Recipe) { r.Window = 2 }),
		recipe(func(r *api.Recipe) { r.Window = 512 }),
		recipe(func(r *api.Recipe) { r.Parts = 2 }),
		recipe(func(r *api.Recipe) { r.Parts = 4 }),
		recipe(func(r *api.Recipe) { r.Misfit = 1 << 40 }),
		recipe(func(r *api.Recipe) { r.Near = 0 }),
		recipe(func(r *api.Recipe) { r.Near = 7 }),
		recipe(func(r *api.Recipe) { r.Step, r.Limit = 1, 8 }),
		recipe(func(r *api.Recipe) { r.Step, r.Limit = 2, 3 }),
		recipe(func(r *api.Recipe) { r.Step, r.Limit = 8, 1 }),
		recipe(func(r *api.Recipe) { r.Step, r.Limit = 8, 0 }),
		recipe(func(r *api.Recipe) { r.Limit = 0 }),
	}
}

// P11.1: which recipes are valid.
func TestCheckRecipe(t *testing.T) {
	for i, r := range validRecipes() {
		hasError(t, fmt.Sprint("recipe ", i), CheckRecipe(examplePlan(), r), api.OK)
	}
	for _, r := range wrongRecipes() {
		hasError(t, fmt.Sprintf("%.200v", r), CheckRecipe(examplePlan(), r), api.ErrRecipe)
	}
	hasError(t, "great", CheckRecipe(greatPlan(), greatRecipe()), api.OK)
	random := rand.New(rand.NewSource(1))
	for range 300 {
		p, r := randomRun(random)
		hasError(t, fmt.Sprint(p, r), CheckRecipe(p, r), api.OK)
	}
}

// P11.1: a recipe is valid for a plan, with its number of samples.
func TestRecipesOfPlans(t *testing.T) {
	set := func(near, step, limit int) api.Recipe {
		return recipe(func(r *api.Recipe) { r.Near, r.Step, r.Limit = near, step, limit })
	}
	for _, x := range []struct {
		samples int
		r       api.Recipe
		want    api.Errno
	}{
		{512, set(0, 1, 0), api.ErrRecipe}, {512, set(511, 2, 256), api.OK}, {512, set(512, 2, 256), api.ErrRecipe}, {512, set(511, 2, 257), api.ErrRecipe}, {512, set(0, 512, 1), api.OK}, {512, set(0, 512, 2), api.ErrRecipe},
		{257, set(0, 1, 0), api.ErrRecipe}, {256, set(0, 1, 256), api.OK}, {256, set(255, 1, 257), api.ErrRecipe}, {257, set(256, 257, 1), api.OK},
		{3, set(0, 1, 0), api.ErrRecipe}, {1, set(0, 1, 0), api.ErrRecipe}, {4, set(3, 2, 2), api.OK}, {4, set(4, 2, 2), api.ErrRecipe}, {7, set(4, 4, 1), api.ErrRecipe}, {12, set(4, 4, 3), api.OK}, {12, set(4, 5, 1), api.ErrRecipe},
		{63, recipe(func(r *api.Recipe) { r.Length, r.Step, r.Limit = 64, 1, 1 }), api.ErrRecipe},
		{64, recipe(func(r *api.Recipe) { r.Length = 64 }), api.OK},
		{512, recipe(func(r *api.Recipe) { r.Length = 65 }), api.ErrRecipe},
		{7, recipe(func(r *api.Recipe) { r.Length, r.Parts, r.Step, r.Limit = 7, 7, 7, 1 }), api.OK},
		{512, recipe(func(r *api.Recipe) { r.Length, r.Parts = 60, 8 }), api.ErrRecipe},
		{512, recipe(func(r *api.Recipe) { r.Length, r.Parts = 63, 9 }), api.ErrRecipe},
		// A chirp that is silent, though neither P nor Q is 0.
		{8, recipe(func(r *api.Recipe) { r.Bank = chirps(16, 0, 48, 16) }), api.ErrRecipe},
	} {
		hasError(t, fmt.Sprint(x.samples, x.r), CheckRecipe(even(x.samples, 100), x.r), x.want)
	}
}

// P11.1: ErrRecipe comes after the errors of a plan, and before all others.
func TestRecipeErrors(t *testing.T) {
	for _, r := range wrongRecipes() {
		for _, n := range list(0, 1, -1, 2, 1<<62) {
			withRecipe(t, "ErrRecipe", examplePlan(), r, n, api.ErrRecipe)
		}
		a := must[*Archive](t)(NewArchive(examplePlan()))
		number, e := a.Publish(r)
		is(t, "Publish", number, e, 0, api.ErrRecipe)
	}
	changes, errors := wrong()
	for kind, l := range changes {
		for _, c := range l[:5] {
			for _, r := range wrongRecipes() {
				hasError(t, "CheckRecipe", CheckRecipe(with(examplePlan(), c), r), errors[kind])
			}
		}
	}
}

// exampleEntry is the one of the plan without work.
func exampleEntry() api.Entry {
	return api.Entry{A: 0, B: 4, Loud: 64516, Chance: chanceOf(2, 2)}
}

// P11.3: the chapter's examples.
func TestCatalogueExamples(t *testing.T) {
	p, r := examplePlan(), exampleRecipe()
	found, e := Triggers(p, r, 0)
	is(t, "Triggers 0", found, e, triggers(api.Trigger{Time: 0, Loud: 32258}), api.OK)
	found, e = Triggers(p, r, 1)
	is(t, "Triggers 1", found, e, nil, api.OK)
	statistics, e := Statistics(p, r)
	is(t, "Statistics", statistics, e, list(-1, -1), api.OK)
	entries, e := Catalogue(p, r)
	is(t, "Catalogue", entries, e, nil, api.OK)
	found, e = Triggers(freePlan(), r, 1)
	is(t, "Triggers 1", found, e, triggers(api.Trigger{Time: 4, Loud: 32258}), api.OK)
	statistics, e = Statistics(freePlan(), r)
	is(t, "Statistics", statistics, e, list(64516, 64516), api.OK)
	entries, e = Catalogue(freePlan(), r)
	is(t, "Catalogue", entries, e, []api.Entry{exampleEntry()}, api.OK)
}

// P11.3: each of the numbers of a recipe counts, just at its limit.
func TestRecipeNumbers(t *testing.T) {
	entry := []api.Entry{exampleEntry()}
	for _, x := range []struct {
		what string
		do   func(r *api.Recipe)
		want []api.Entry
	}{
		{"the greatest floor", func(r *api.Recipe) { r.Floor = 32258 }, entry},
		{"a greater floor", func(r *api.Recipe) { r.Floor = 32259 }, nil},
		{"the greatest variance", func(r *api.Recipe) { r.Variance, r.Floor = 16129, 2 }, entry},
		{"a greater variance", func(r *api.Recipe) { r.Variance, r.Floor = 16130, 2 }, nil},
		{"the least near", func(r *api.Recipe) { r.Near = 4 }, entry},
		{"a lesser near", func(r *api.Recipe) { r.Near = 3 }, nil},
		{"a lesser limit", func(r *api.Recipe) { r.Limit = 1 }, nil},
		{"no limit", func(r *api.Recipe) { r.Limit = 0 }, nil},
		{"one slide", func(r *api.Recipe) { r.Step, r.Limit = 8, 1 }, []api.Entry{{A: 0, B: 4, Loud: 64516, Chance: chanceOf(1, 1)}}},
		{"another template", func(r *api.Recipe) { r.Bank = chirps(48, 1, 16, 0) }, []api.Entry{{A: 0, B: 4, Template: 1, Loud: 64516, Chance: chanceOf(2, 2)}}},
	} {
		entries, e := Catalogue(freePlan(), recipe(x.do))
		is(t, x.what, entries, e, x.want, api.OK)
	}
}

// P11.3: the misfit counts exactly, and Loud is rounded down.
func TestMisfitAndLoud(t *testing.T) {
	p := with(freePlan(), func(p *api.Plan) { p.Data[0] = list(0, 127, 0, -125, 0, 0, 0, 0) })
	// The output is 127 * 252; its halves say 127 * 127 and 125 * 127, so the misfit is 2.
	for misfit, want := range [][]api.Trigger{nil, nil, triggers(api.Trigger{Loud: 31752}), triggers(api.Trigger{Loud: 31752})} {
		found, e := Triggers(p, recipe(func(r *api.Recipe) { r.Parts, r.Misfit = 2, misfit }), 0)
		is(t, fmt.Sprint("misfit ", misfit), found, e, want, api.OK)
	}
	// With the output 127 * 253 it is 1/2, and Loud is 32004 and a half.
	p.Data[0][3] = -126
	for misfit, want := range [][]api.Trigger{nil, triggers(api.Trigger{Loud: 32004})} {
		found, e := Triggers(p, recipe(func(r *api.Recipe) { r.Parts, r.Misfit = 2, misfit }), 0)
		is(t, fmt.Sprint("misfit ", misfit), found, e, want, api.OK)
	}
}

// P11.3: windows are chosen before it is asked what is ready, or fits.
func TestWindowsComeFirst(t *testing.T) {
	p := with(freePlan(), func(p *api.Plan) { p.Data[0] = list(0, 127, 0, -127, 0, 254, 0, -254) })
	r := recipe(func(r *api.Recipe) { r.Window = 4 })
	found, e := Triggers(p, r, 0)
	is(t, "two windows", found, e, triggers(api.Trigger{Loud: 32258}, api.Trigger{Time: 4, Loud: 129032}), api.OK)
	r.Window = 5
	found, e = Triggers(p, r, 0)
	is(t, "one window", found, e, triggers(api.Trigger{Time: 4, Loud: 129032}), api.OK)
	p.Vetoes[0] = []api.Veto{veto("a", 7, 8)}
	found, e = Triggers(p, r, 0)
	is(t, "a veto at the louder one", found, e, nil, api.OK)
	p.Vetoes = [2][]api.Veto{1: p.Vetoes[0]}
	found, e = Triggers(p, r, 0)
	is(t, "a veto of the other detector", found, e, triggers(api.Trigger{Time: 4, Loud: 129032}), api.OK)
	p.Data[0][7], r.Parts = -250, 2
	found, e = Triggers(p, r, 0)
	is(t, "the louder one does not fit", found, e, nil, api.OK)
}

// P11.3: all results compared with the definitions.
func TestCatalogues(t *testing.T) {
	random := rand.New(rand.NewSource(5))
	full, dropped := 0, 0
	for range 1000 {
		p, r := randomRun(random)
		what := fmt.Sprintf("%+v, %+v", p, r)
		for detector := range 2 {
			found, e := Triggers(p, r, detector)
			is(t, "Triggers "+what, found, e, modelTriggers(p, r, detector), api.OK)
		}
		statistics, e := Statistics(p, r)
		is(t, "Statistics "+what, statistics, e, modelStatistics(p, r), api.OK)
		entries, e := Catalogue(p, r)
		is(t, "Catalogue "+what, entries, e, modelCatalogue(p, r), api.OK)
		if len(entries) > 0 {
			full++
		}
		r.Limit = len(statistics)
		if all, _ := Catalogue(p, r); len(all) > len(entries) {
			dropped++
		}
	}
	if full < 100 || dropped < 100 {
		t.Errorf("only %d catalogues have entries, and %d lack some", full, dropped)
	}
}

// P1: the greatest plan and recipe, and as many triggers and entries as there may be.
func TestGreatCatalogues(t *testing.T) {
	p, r := greatPlan(), greatRecipe()
	found, e := Triggers(p, r, 0)
	is(t, "Triggers", found, e, nil, api.OK)
	p.Work, p.Vetoes = nil, [2][]api.Veto{}
	// The samples are a wave all the time, which is found at every other time.
	r = api.Recipe{Version: 1, Length: 4, Bank: chirps(48, 0, 16, 0), Variance: 1, Window: 2, Parts: 1, Misfit: 1 << 40, Near: 511, Step: 2, Limit: 256}
	for detector := range 2 {
		for i := range 512 {
			p.Data[detector][i] = list(0, 4096, 0, -4096)[i%4]
		}
		found, e = Triggers(p, r, detector)
		is(t, "Triggers", found, e, modelTriggers(p, r, detector), api.OK)
		if len(found) != 255 || found[0] != (api.Trigger{Time: 0, Loud: 2 * 4096 * 4096, Template: 1}) || found[1] != (api.Trigger{Time: 2, Loud: 2 * 4096 * 4096}) {
			t.Errorf("Triggers: %d, %v", len(found), found[:2])
		}
	}
	entries := must[[]api.Entry](t)(Catalogue(p, r))
	last := entries[len(entries)-1]
	if len(entries) != 128*128+127*127 || last != (api.Entry{A: 508, B: 508, Template: 1, Loud: 4 * 4096 * 4096, Chance: chanceOf(256, 256)}) {
		t.Errorf("Catalogue: %d, %v", len(entries), last)
	}
	// The loudest trigger that there may be.
	p.Data[0] = slices.Repeat(list(4096), 512)
	r.Length, r.Bank, r.Window = 64, chirps(1, 0), 512
	for i, n := range modelWave(64, r.Bank[0]) {
		p.Data[0][i] = max(-4096, min(4096, 4096*n))
	}
	found, e = Triggers(p, r, 0)
	is(t, "Triggers", found, e, modelTriggers(p, r, 0), api.OK)
	if len(found) != 1 || found[0].Loud < 1<<29 {
		t.Errorf("the loudest trigger: %v", found)
	}
}

// P11.9: all times of a trigger are quiet, and what is quiet does not depend on the samples.
func TestTriggersAreQuiet(t *testing.T) {
	random := rand.New(rand.NewSource(6))
	many := 0
	for range 300 {
		p, r := randomRun(random)
		silent := with(p, func(p *api.Plan) { p.Data = [2][]int{make([]int, len(p.Data[0])), make([]int, len(p.Data[0]))} })
		for detector := range 2 {
			quiet := must[[]bool](t)(Quiet(p, detector))
			is(t, "Quiet of other samples", must[[]bool](t)(Quiet(silent, detector)), api.OK, quiet, api.OK)
			for _, x := range must[[]api.Trigger](t)(Triggers(p, r, detector)) {
				many++
				if slices.Contains(quiet[x.Time:x.Time+r.Length], false) {
					t.Errorf("%v, %v: %v", p, r, x)
				}
			}
		}
	}
	if many < 100 {
		t.Errorf("only %d triggers", many)
	}
}

// P11.11: a greater limit takes no entry away, and each has a chance within it.
func TestLimits(t *testing.T) {
	random := rand.New(rand.NewSource(7))
	for range 200 {
		p, r := randomRun(random)
		var before []api.Entry
		for r.Limit = 0; r.Limit <= len(p.Data[0])/r.Step; r.Limit++ {
			entries := must[[]api.Entry](t)(Catalogue(p, r))
			if less := modelLess(before, entries); len(less) > 0 {
				t.Fatalf("%v, %v: %v", p, r, less)
			}
			if slices.ContainsFunc(entries, func(x api.Entry) bool { return x.Chance.N > r.Limit || x.Chance.N < 1 }) {
				t.Fatalf("%v, %v: %v", p, r, entries)
			}
			before = entries
		}
	}
}

// P11.10: a catalogue depends on nothing that comes before it.
func TestCataloguesAgain(t *testing.T) {
	var wants [][]api.Entry
	for seed := range int64(50) {
		p, r := randomRun(rand.New(rand.NewSource(seed)))
		wants = append(wants, must[[]api.Entry](t)(Catalogue(p, r)))
	}
	for i := range 50 {
		seed := (i * 37) % 50
		p, r := randomRun(rand.New(rand.NewSource(int64(seed))))
		entries, e := Catalogue(p, r)
		is(t, "Catalogue", entries, e, wants[seed], api.OK)
	}
}
