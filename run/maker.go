package run

import (
	"slices"

	"ringdown/api"
	"ringdown/bank"
	"ringdown/num"
	"ringdown/search"
)

// maker follows a recipe for a plan. (Both are valid where it calls lower layers, so that these have no errors then.)
type maker struct {
	plan
	api.Recipe
}

func (m maker) check() api.Errno {
	switch e := m.plan.check(); {
	case e != api.OK:
		return e
	case !isRecipe(m.Recipe, m.span()):
		return api.ErrRecipe
	}
	return api.OK
}

// side is a detector for which a recipe is followed, and what was found of it up to now.
type side struct {
	maker
	detector int
	hits     []api.Hit
	found    []api.Trigger
}

// triggers returns those of a detector, to which the steps of the recipe lead.
func (m maker) triggers(detector int) []api.Trigger {
	steps := [...]func(*side){(*side).find, (*side).keepReady, (*side).keepFitting, (*side).measure}
	s := side{maker: m, detector: detector}
	for _, step := range steps {
		step(&s)
	}
	return s.found
}

func (s *side) samples() []int { return s.data[s.detector] }

// find takes the hits in windows.
func (s *side) find() {
	s.hits, _ = bank.Loudest(s.Length, s.Bank, s.samples(), s.Variance, s.Floor, s.Window)
}

// keep leaves only such hits.
func (s *side) keep(isSuch func(api.Hit) bool) {
	s.hits = slices.DeleteFunc(s.hits, func(h api.Hit) bool { return !isSuch(h) })
}

// keepReady leaves only hits whose times are ready.
func (s *side) keepReady() {
	times := s.ready(s.detector, s.Length)
	s.keep(func(h api.Hit) bool { return slices.Contains(times, h.Time) })
}

// keepFitting leaves only hits whose misfit is small enough.
func (s *side) keepFitting() {
	most, _ := num.Of(s.Misfit, 1)
	s.keep(func(h api.Hit) bool {
		misfit, _ := bank.Misfit(s.Length, s.Bank[h.Chirp], s.samples(), h.Time, s.Parts)
		order, _ := num.Cmp(misfit, most)
		return order <= 0
	})
}

// measure makes hits triggers, by how loud they are.
func (s *side) measure() {
	for _, h := range s.hits {
		norm, _ := bank.Norm(s.Length, s.Bank[h.Chirp])
		s.found = append(s.found, api.Trigger{Time: h.Time, Loud: h.Out * h.Out / norm, Template: h.Chirp})
	}
}

func (m maker) statistics() []int {
	list, _ := search.Statistics(m.triggers(0), m.triggers(1), m.span(), m.Near, m.Step)
	return list
}

func (m maker) catalogue() []api.Entry {
	a, b := m.triggers(0), m.triggers(1)
	candidates, _ := search.Candidates(a, b, m.span(), m.Near, m.Step, m.Limit)
	var list []api.Entry
	for _, c := range candidates {
		one, other := a[c.Pair.A], b[c.Pair.B]
		list = append(list, api.Entry{A: one.Time, B: other.Time, Template: one.Template, Loud: c.Pair.Loud, Chance: c.Chance})
	}
	return list
}

// issue returns what is published of the plan with the recipe.
func (m maker) issue() api.Issue {
	return api.Issue{Version: m.Version, Stamp: m.stamp(), Entries: m.catalogue()}
}
