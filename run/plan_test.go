package run

import (
	"fmt"
	"math/rand"
	"slices"
	"testing"

	"ringdown/api"
)

// even is a plan of so many samples, with duties of the same length.
func even(samples, each int) api.Plan {
	var p api.Plan
	for from := 0; from < samples; from += each {
		p.Duties = append(p.Duties, duty([]string{"a", "b"}[from/each%2], from, min(from+each, samples)))
	}
	p.Data = [2][]int{make([]int, samples), make([]int, samples)}
	return p
}

// working is a plan with so many pieces of planned work, side by side.
func working(many int) api.Plan {
	p := even(many, 100)
	for i := range many {
		p.Work = append(p.Work, segment(i, i+1))
	}
	return p
}

func validPlans() []api.Plan {
	l := []api.Plan{
		examplePlan(), freePlan(), busyPlan(), greatPlan(), even(1, 1), even(2, 1), even(2, 2), even(64, 1), even(512, 8), even(512, 128), even(128, 128), even(129, 128), even(511, 127), working(1), working(16),
		with(busyPlan(), func(p *api.Plan) { p.Work, p.Vetoes = []api.Segment{}, [2][]api.Veto{{}, nil} }),
		// All names may be the same, but not two that follow each other; a duty may be all work.
		with(even(6, 2), func(p *api.Plan) { p.Duties[2].Who = "a"; p.Work = segments(0, 2, 2, 4, 4, 6) }),
		with(examplePlan(), func(p *api.Plan) {
			p.Vetoes = [2][]api.Veto{{veto("a", 0, 1<<30)}, {veto("a", 1<<30-1, 1<<30), veto("b")}}
		}),
	}
	for _, n := range list(4096, -4096) {
		for detector := range 2 {
			l = append(l, with(examplePlan(), func(p *api.Plan) { p.Data[detector][0], p.Data[detector][7] = n, n }))
		}
	}
	return l
}

// wrong are changes that make a plan wrong, by errors, in the order of these.
func wrong() (changes [][]change, errors []api.Errno) {
	return [][]change{wrongSamples(), wrongDuties(), wrongWork(), wrongVetoes()}, []api.Errno{api.ErrPlan, api.ErrRoster, api.ErrWork, api.ErrVeto}
}

// P11.1: which plans are valid.
func TestCheck(t *testing.T) {
	for i, p := range validPlans() {
		hasError(t, fmt.Sprint("plan ", i), Check(p), api.OK)
	}
	r := rand.New(rand.NewSource(1))
	for range 300 {
		p, _ := randomRun(r)
		hasError(t, fmt.Sprint(p), Check(p), api.OK)
	}
	changes, errors := wrong()
	for kind, l := range changes {
		for i, c := range l {
			for _, p := range []api.Plan{examplePlan(), busyPlan()} {
				hasError(t, fmt.Sprint("change ", i), Check(with(p, c)), errors[kind])
			}
		}
	}
	hasError(t, "no plan", Check(api.Plan{}), api.ErrPlan)
}

// P11.1: limits of numbers that the other plans do not reach.
func TestCheckLimits(t *testing.T) {
	for _, x := range []struct {
		what string
		p    api.Plan
		want api.Errno
	}{
		{"513 samples", even(513, 128), api.ErrPlan},
		{"a duty of 129", even(129, 129), api.ErrRoster},
		{"a later duty of 129", with(even(257, 128), func(p *api.Plan) { p.Duties[1].To, p.Duties[2].From = 257, 257 }), api.ErrRoster},
		{"a last duty of 129", with(even(257, 128), func(p *api.Plan) { p.Duties = p.Duties[:2]; p.Duties[1].To = 257 }), api.ErrRoster},
		{"65 duties", even(65, 1), api.ErrRoster},
		{"65 duties of 130", even(130, 2), api.ErrRoster},
		{"17 works", working(17), api.ErrWork},
		{"work beyond", with(even(8, 8), func(p *api.Plan) { p.Work = segments(7, 9) }), api.ErrWork},
		{"work in two duties of the same name", with(even(6, 2), func(p *api.Plan) { p.Work = segments(1, 5) }), api.ErrWork},
	} {
		hasError(t, x.what, Check(x.p), x.want)
	}
}

// P11.1, R1: of several errors the first one is returned.
func TestOrderOfPlanErrors(t *testing.T) {
	r := rand.New(rand.NewSource(2))
	changes, errors := wrong()
	for first := range changes {
		for later := first + 1; later < len(changes); later++ {
			for range 500 {
				// The first one comes last, as later ones look at what it changes.
				p := with(pick(r, examplePlan(), busyPlan()), pick(r, changes[later]...), pick(r, changes[first]...))
				hasError(t, fmt.Sprint(first, later), Check(p), errors[first])
			}
		}
	}
}

// everywhere checks that all functions with a plan return an error, and nothing besides, with arguments that are wrong too or not.
func everywhere(t *testing.T, p api.Plan, want api.Errno) {
	t.Helper()
	what := fmt.Sprint("error ", want)
	for _, n := range list(0, -1, 1<<62) {
		who, e := Watcher(p, n)
		is(t, "Watcher "+what, who, e, "", want)
		quiet, e := Quiet(p, n)
		is(t, "Quiet "+what, quiet, e, nil, want)
		ready, e := Ready(p, n, n)
		is(t, "Ready "+what, ready, e, nil, want)
		ready, e = Ready(p, 0, 4)
		is(t, "Ready "+what, ready, e, nil, want)
		for _, waves := range [][]api.Wave{nil, {{}}} {
			with, e := Inject(p, n, waves)
			is(t, "Inject "+what, with, e, api.Plan{}, want)
		}
		for _, r := range []api.Recipe{exampleRecipe(), {}} {
			withRecipe(t, what, p, r, n, want)
		}
	}
	tallies, e := Duty(p)
	is(t, "Duty "+what, tallies, e, nil, want)
	a, e := NewArchive(p)
	if a != nil || e != want {
		t.Errorf("NewArchive %s: %v, %d", what, a, e)
	}
}

// withRecipe checks the error of all functions with a plan and a recipe.
func withRecipe(t *testing.T, what string, p api.Plan, r api.Recipe, detector int, want api.Errno) {
	t.Helper()
	hasError(t, "CheckRecipe "+what, CheckRecipe(p, r), want)
	found, e := Triggers(p, r, detector)
	is(t, "Triggers "+what, found, e, nil, want)
	statistics, e := Statistics(p, r)
	is(t, "Statistics "+what, statistics, e, nil, want)
	entries, e := Catalogue(p, r)
	is(t, "Catalogue "+what, entries, e, nil, want)
	stamp, e := Stamp(p, r)
	is(t, "Stamp "+what, stamp, e, 0, want)
}

// P11.1: all functions with a plan return its error first.
func TestPlanErrors(t *testing.T) {
	changes, errors := wrong()
	for kind, l := range changes {
		for _, c := range l {
			everywhere(t, with(examplePlan(), c), errors[kind])
		}
	}
}

// P11.1: detectors are 0 and 1.
func TestDetectors(t *testing.T) {
	for _, n := range append(beyond(0, 1), 2, 3) {
		for _, p := range []api.Plan{examplePlan(), busyPlan(), greatPlan()} {
			quiet, e := Quiet(p, n)
			is(t, "Quiet", quiet, e, nil, api.ErrRange)
			for _, length := range list(1, 512, 0, 513) {
				ready, e := Ready(p, n, length)
				is(t, "Ready", ready, e, nil, api.ErrRange)
			}
			for _, waves := range [][]api.Wave{nil, {{}}, {{At: 1, Gain: 64, Samples: list(256)}}} {
				with, e := Inject(p, n, waves)
				is(t, "Inject", with, e, api.Plan{}, api.ErrRange)
			}
		}
		found, e := Triggers(examplePlan(), exampleRecipe(), n)
		is(t, "Triggers", found, e, nil, api.ErrRange)
	}
}

// P11.2, P11.8: each time has one watcher, who is that of its duty.
func TestWatcher(t *testing.T) {
	for _, p := range validPlans() {
		samples := len(p.Data[0])
		for at := range samples {
			who, e := Watcher(p, at)
			is(t, fmt.Sprint("Watcher ", at), who, e, modelWatcher(p, at), api.OK)
		}
		for _, at := range beyond(0, samples-1) {
			who, e := Watcher(p, at)
			is(t, fmt.Sprint("Watcher ", at), who, e, "", api.ErrRange)
		}
	}
	who, e := Watcher(examplePlan(), 3)
	is(t, "Watcher", who, e, "ann", api.OK)
	who, e = Watcher(examplePlan(), 4)
	is(t, "Watcher", who, e, "bob", api.OK)
}

// P11.2: the chapter's examples.
func TestReadyExamples(t *testing.T) {
	for _, x := range []struct {
		length int
		want   []int
	}{{4, list(0, 1)}, {2, list(0, 1, 2, 3, 6)}, {1, list(0, 1, 2, 3, 4, 6, 7)}, {5, list(0)}, {6, nil}, {8, nil}, {9, nil}, {512, nil}} {
		ready, e := Ready(examplePlan(), 0, x.length)
		is(t, fmt.Sprint("Ready ", x.length), ready, e, x.want, api.OK)
	}
	tallies, e := Duty(examplePlan())
	is(t, "Duty", tallies, e, slices.Repeat([]api.Tally{{N: 7, Of: 8}}, 3), api.OK)
	quiet, e := Quiet(examplePlan(), 1)
	is(t, "Quiet", quiet, e, []bool{true, true, true, true, true, false, true, true}, api.OK)
}

// P11.2: vetoes count for their own detector, up to, but not including, their ends.
func TestVetoes(t *testing.T) {
	p := with(examplePlan(), func(p *api.Plan) {
		p.Vetoes[0] = []api.Veto{veto("a", 0, 2), veto("b", 1, 3, 7, 1<<30)}
		p.Vetoes[1] = []api.Veto{veto("a", 4, 6, 4, 5), veto("far", 8, 9)}
	})
	quiet, e := Quiet(p, 0)
	is(t, "Quiet 0", quiet, e, []bool{false, false, false, true, true, false, true, false}, api.OK)
	quiet, e = Quiet(p, 1)
	is(t, "Quiet 1", quiet, e, []bool{true, true, true, true, false, false, true, true}, api.OK)
	tallies, e := Duty(p)
	is(t, "Duty", tallies, e, []api.Tally{{N: 3, Of: 8}, {N: 6, Of: 8}, {N: 2, Of: 8}}, api.OK)
	ready, e := Ready(p, 1, 2)
	is(t, "Ready", ready, e, list(0, 1, 2, 6), api.OK)
}

// P11.2: Ready asks for lengths from 1 to 512, also if there are fewer samples.
func TestReadyLengths(t *testing.T) {
	for _, n := range append(beyond(1, 512), 0, 513) {
		for _, p := range []api.Plan{examplePlan(), greatPlan()} {
			ready, e := Ready(p, 0, n)
			is(t, fmt.Sprint("Ready ", n), ready, e, nil, api.ErrRange)
		}
	}
	ready, e := Ready(even(512, 128), 1, 512)
	is(t, "all of it", ready, e, list(0), api.OK)
	ready, e = Ready(even(1, 1), 0, 1)
	is(t, "one", ready, e, list(0), api.OK)
	ready, e = Ready(even(1, 1), 0, 2)
	is(t, "none", ready, e, nil, api.OK)
}

// somePlans are the valid ones and random ones.
func somePlans(seed int64, many int) []api.Plan {
	r := rand.New(rand.NewSource(seed))
	l := validPlans()
	for range many {
		p, _ := randomRun(r)
		l = append(l, p)
	}
	return l
}

// P11.2: what is quiet, ready and counted, compared with the definitions.
func TestQuietAndReady(t *testing.T) {
	for _, p := range somePlans(3, 500) {
		for detector := range 2 {
			quiet, e := Quiet(p, detector)
			is(t, fmt.Sprint("Quiet ", p), quiet, e, modelQuiet(p, detector), api.OK)
			for _, length := range list(1, 2, 3, 4, 7, 20, len(p.Data[0]), len(p.Data[0])-1, 512) {
				if length > 0 {
					ready, e := Ready(p, detector, length)
					is(t, fmt.Sprint("Ready ", length, p), ready, e, modelReady(p, detector, length), api.OK)
				}
			}
		}
		tallies, e := Duty(p)
		is(t, fmt.Sprint("Duty ", p), tallies, e, modelDuty(p), api.OK)
	}
}

// P11.8: ready for 1 is quiet, ready for a length is ready for each lesser one, and Duty counts what Quiet says.
func TestReadyIsQuiet(t *testing.T) {
	for _, p := range somePlans(4, 100) {
		var both []bool
		tallies := must[[]api.Tally](t)(Duty(p))
		for detector := range 2 {
			quiet := must[[]bool](t)(Quiet(p, detector))
			var before []int
			many := 0
			for at, isQuiet := range quiet {
				if isQuiet {
					before = append(before, at)
					many++
				}
				if detector == 0 {
					both = append(both, isQuiet)
				} else {
					both[at] = both[at] && isQuiet
				}
			}
			is(t, "Duty", tallies[detector], api.OK, api.Tally{N: many, Of: len(quiet)}, api.OK)
			is(t, "ready for 1", must[[]int](t)(Ready(p, detector, 1)), api.OK, before, api.OK)
			for length := 2; length < 30; length++ {
				ready := must[[]int](t)(Ready(p, detector, length))
				if slices.ContainsFunc(ready, func(at int) bool { return !slices.Contains(before, at) }) {
					t.Fatalf("%v: %v, %v", p, ready, before)
				}
				before = ready
			}
		}
		many := len(slices.DeleteFunc(both, func(isQuiet bool) bool { return !isQuiet }))
		is(t, "Duty of both", tallies[2], api.OK, api.Tally{N: many, Of: len(p.Data[0])}, api.OK)
	}
}
