package run

import (
	"fmt"
	"math/big"
	"math/rand"
	"testing"

	"ringdown/api"
)

// hasStamp compares the stamp of a plan and a recipe with the definition, and returns it.
func hasStamp(t *testing.T, what string, p api.Plan, r api.Recipe) int {
	t.Helper()
	stamp, e := Stamp(p, r)
	is(t, "Stamp "+what, stamp, e, modelStamp(p, r), api.OK)
	return stamp
}

// P11.3: stamps compared with the definition, also of the greatest numbers.
func TestStamps(t *testing.T) {
	for i, p := range validPlans() {
		r := exampleRecipe()
		r.Step, r.Limit, r.Near = len(p.Data[0]), 0, 0
		if len(p.Data[0]) >= 4 {
			hasStamp(t, fmt.Sprint("plan ", i), p, r)
		}
	}
	for i, r := range validRecipes() {
		hasStamp(t, fmt.Sprint("recipe ", i), examplePlan(), r)
	}
	hasStamp(t, "great", greatPlan(), greatRecipe())
	random := rand.New(rand.NewSource(1))
	for range 500 {
		p, r := randomRun(random)
		hasStamp(t, fmt.Sprint(p, r), p, r)
	}
	// Numbers from 2^31 - 1 on count with their rests.
	for _, n := range list(1<<31-2, 1<<31-1, 1<<31, 1<<32-2, 1<<32-1, 1<<40-1, 1<<40) {
		hasStamp(t, fmt.Sprint(n), examplePlan(), recipe(func(r *api.Recipe) { r.Misfit = n }))
	}
	one := hasStamp(t, "1", examplePlan(), recipe(func(r *api.Recipe) { r.Misfit = 1 }))
	is(t, "1 and the ring", hasStamp(t, "2^31", examplePlan(), recipe(func(r *api.Recipe) { r.Misfit = 1 << 31 })), api.OK, one, api.OK)
}

// changesOfPlans change one thing of the busy plan, which is still valid.
func changesOfPlans() []change {
	return []change{
		func(p *api.Plan) { p.Duties[0].Who = "anm" },
		func(p *api.Plan) { p.Duties[0].Who = "bnn" },
		func(p *api.Plan) { p.Duties[0].Who = "an" },
		func(p *api.Plan) { p.Duties[3].Who = "eve_" },
		func(p *api.Plan) { p.Duties[2].To, p.Duties[3].From, p.Work = 19, 19, nil },
		func(p *api.Plan) { p.Duties = p.Duties[:3]; p.Duties[2].To, p.Work = 24, nil },
		func(p *api.Plan) { p.Work = nil },
		func(p *api.Plan) { p.Work = p.Work[:4] },
		func(p *api.Plan) { p.Work[0].To = 1 },
		func(p *api.Plan) { p.Work[1].From, p.Work[0].To = 1, 1 },
		func(p *api.Plan) { p.Work[4].From = 21 },
		func(p *api.Plan) { p.Work[4].To = 23 },
		func(p *api.Plan) { p.Vetoes[0] = nil },
		func(p *api.Plan) { p.Vetoes[0], p.Vetoes[1] = p.Vetoes[1], p.Vetoes[0] },
		func(p *api.Plan) { p.Vetoes[0][0], p.Vetoes[0][1] = p.Vetoes[0][1], p.Vetoes[0][0] },
		func(p *api.Plan) { p.Vetoes[0][0].Name = "hun" },
		func(p *api.Plan) { p.Vetoes[0][1].Name = "nonf" },
		func(p *api.Plan) { p.Vetoes[1][2].Name = "win" },
		func(p *api.Plan) { p.Vetoes[0][0].Segments = p.Vetoes[0][0].Segments[:2] },
		func(p *api.Plan) { p.Vetoes[0][0].Segments[1].From = 2 },
		func(p *api.Plan) { p.Vetoes[0][0].Segments[2].To = 101 },
		func(p *api.Plan) { p.Vetoes[1][1].Segments[1].To-- },
		func(p *api.Plan) { p.Vetoes[1][1].Segments = nil },
		func(p *api.Plan) { p.Data[0][0]++ },
		func(p *api.Plan) { p.Data[0][0] = -p.Data[0][0] },
		func(p *api.Plan) { p.Data[0][23]-- },
		func(p *api.Plan) { p.Data[1][0] = 4096 },
		func(p *api.Plan) { p.Data[1][23] = -4096 },
		func(p *api.Plan) { p.Data[0], p.Data[1] = p.Data[1], p.Data[0] },
		func(p *api.Plan) { p.Data[0][3], p.Data[0][4] = p.Data[0][4], p.Data[0][3] },
	}
}

// changedRecipes differ in one thing from the example's one.
func changedRecipes() []api.Recipe {
	return []api.Recipe{
		recipe(func(r *api.Recipe) { r.Version = 2 }),
		recipe(func(r *api.Recipe) { r.Length = 5 }),
		recipe(func(r *api.Recipe) { r.Bank = chirps(17, 0) }),
		recipe(func(r *api.Recipe) { r.Bank = chirps(16, 1) }),
		recipe(func(r *api.Recipe) { r.Bank = chirps(16, 0, 16, 1) }),
		recipe(func(r *api.Recipe) { r.Variance = 2 }),
		recipe(func(r *api.Recipe) { r.Floor = 2 }),
		recipe(func(r *api.Recipe) { r.Window = 5 }),
		recipe(func(r *api.Recipe) { r.Parts = 2 }),
		recipe(func(r *api.Recipe) { r.Misfit = 1 }),
		recipe(func(r *api.Recipe) { r.Near = 5 }),
		recipe(func(r *api.Recipe) { r.Step = 8 }),
		recipe(func(r *api.Recipe) { r.Limit = 1 }),
	}
}

// P11.3, P11.10: each number that a plan and a recipe have counts.
func TestStampOfChanges(t *testing.T) {
	stamps := map[int]string{}
	add := func(what string, stamp int) {
		if other, ok := stamps[stamp]; ok {
			t.Errorf("%s has the stamp of %s", what, other)
		}
		stamps[stamp] = what
	}
	add("the plan", hasStamp(t, "busy", busyPlan(), exampleRecipe()))
	for i, c := range changesOfPlans() {
		p := with(busyPlan(), c)
		add(fmt.Sprint("plan ", i), hasStamp(t, fmt.Sprint(i), p, exampleRecipe()))
	}
	for i, r := range changedRecipes() {
		add(fmt.Sprint("recipe ", i), hasStamp(t, fmt.Sprint(i), busyPlan(), r))
	}
}

// restamped returns a plan with a veto of detector 0 that never holds, because of whose numbers the plan, valid or not, has a stamp with a recipe.
func restamped(p api.Plan, r api.Recipe, stamp int) api.Plan {
	p = copied(p)
	at := len(p.Vetoes[0])
	p.Vetoes[0] = append(p.Vetoes[0], veto("last", 0, 1))
	s := &p.Vetoes[0][at].Segments[0]
	ring := big.NewInt(2147483647)
	for s.To = 1 << 30; ; s.To-- {
		// The stamp grows with From by the same number each time.
		s.From = 600
		first := modelStamp(p, r)
		s.From++
		step := big.NewInt(int64(modelStamp(p, r) - first))
		more := big.NewInt(int64(stamp - first))
		more.Mul(more, step.ModInverse(step, ring))
		s.From = 600 + int(more.Mod(more, ring).Int64())
		if s.From < s.To {
			return p
		}
	}
}

// The tests with restamped plans take this for granted.
func TestRestamped(t *testing.T) {
	for stamp := range 20 {
		p := restamped(examplePlan(), exampleRecipe(), stamp)
		got, e := Stamp(p, exampleRecipe())
		is(t, "Stamp", got, e, stamp, api.OK)
		is(t, "Quiet", must[[]bool](t)(Quiet(p, 0)), api.OK, modelQuiet(examplePlan(), 0), api.OK)
	}
	p := restamped(examplePlan(), exampleRecipe(), 2147483646)
	got, e := Stamp(p, exampleRecipe())
	is(t, "Stamp", got, e, 2147483646, api.OK)
}
