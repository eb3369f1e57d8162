package run

import (
	"fmt"
	"math/rand"
	"reflect"
	"slices"
	"strings"
	"testing"

	"ringdown/api"
)

func list(n ...int) []int { return n }

// duty, segment and chirp spare the names of fields.
func duty(who string, from, to int) api.Duty { return api.Duty{Who: who, From: from, To: to} }

func segment(from, to int) api.Segment { return api.Segment{From: from, To: to} }

func segments(n ...int) []api.Segment {
	var l []api.Segment
	for two := range slices.Chunk(n, 2) {
		l = append(l, segment(two[0], two[1]))
	}
	return l
}

func veto(name string, ends ...int) api.Veto {
	return api.Veto{Name: name, Segments: segments(ends...)}
}

func chirps(n ...int) []api.Chirp {
	var l []api.Chirp
	for two := range slices.Chunk(n, 2) {
		l = append(l, api.Chirp{P: two[0], Q: two[1]})
	}
	return l
}

func triggers(l ...api.Trigger) []api.Trigger { return l }

func chanceOf(n, of int) api.Chance { return api.Chance{N: n, Of: of} }

// examplePlan is that of the chapter's examples.
func examplePlan() api.Plan {
	return api.Plan{
		Duties: []api.Duty{duty("ann", 0, 4), duty("bob", 4, 8)},
		Work:   segments(5, 6),
		Data:   [2][]int{list(0, 127, 0, -127, 0, 0, 0, 0), list(0, 0, 0, 0, 0, 127, 0, -127)},
	}
}

// freePlan is the same without work.
func freePlan() api.Plan {
	p := examplePlan()
	p.Work = nil
	return p
}

// exampleRecipe is that of the chapter's examples.
func exampleRecipe() api.Recipe {
	return api.Recipe{Version: 1, Length: 4, Bank: chirps(16, 0), Variance: 1, Floor: 1, Window: 4, Parts: 1, Misfit: 0, Near: 4, Step: 4, Limit: 2}
}

// busyPlan has some of all that a plan may have.
func busyPlan() api.Plan {
	p := api.Plan{
		Duties: []api.Duty{duty("ann", 0, 7), duty("bob", 7, 8), duty("ann", 8, 20), duty("eve", 20, 24)},
		Work:   segments(0, 2, 2, 3, 7, 8, 9, 12, 20, 24),
	}
	p.Vetoes[0] = []api.Veto{veto("hum", 1, 5, 3, 4, 18, 100), veto("none")}
	p.Vetoes[1] = []api.Veto{veto("hum", 13, 14, 0, 1), veto("far", 24, 30, 7, 1<<30), veto("wind", 15, 16)}
	for i := range 24 {
		p.Data[0], p.Data[1] = append(p.Data[0], 100*i-1200), append(p.Data[1], 7-i*i)
	}
	return p
}

// greatPlan has as much as there may be of all, and the greatest numbers.
func greatPlan() api.Plan {
	var p api.Plan
	for i := range 64 {
		p.Duties = append(p.Duties, duty([]string{"a23456789_abcdef", "z"}[i%2], 8*i, 8*i+8))
	}
	for i := range 16 {
		p.Work = append(p.Work, segment(8*i, 8*i+1+i%8))
	}
	for detector := range 2 {
		for i := range 12 {
			v := veto(strings.Repeat("v", 1+i))
			for range 32 {
				v.Segments = append(v.Segments, segment(500+i, 1<<30))
			}
			p.Vetoes[detector] = append(p.Vetoes[detector], v)
		}
		for i := range 512 {
			p.Data[detector] = append(p.Data[detector], []int{4096, -4096}[(i+detector)%2])
		}
	}
	return p
}

// greatRecipe has the greatest numbers for the greatest plan.
func greatRecipe() api.Recipe {
	r := api.Recipe{Version: 1 << 30, Length: 64, Variance: 1 << 20, Floor: 1 << 16, Window: 512, Parts: 8, Misfit: 1 << 40, Near: 511, Step: 2, Limit: 256}
	for i := range 64 {
		r.Bank = append(r.Bank, api.Chirp{P: i, Q: 1})
	}
	return r
}

// copied is a plan that shares no memory with p.
func copied(p api.Plan) api.Plan {
	return deep(reflect.ValueOf(p), false).Interface().(api.Plan)
}

// must returns a result of a call that has no error.
func must[T any](t *testing.T) func(T, api.Errno) T {
	return func(a T, e api.Errno) T {
		t.Helper()
		if e != api.OK {
			t.Fatalf("error %d", e)
		}
		return a
	}
}

// is checks a result; with an error it is the zero value. Lists that are nil or empty are the same.
func is[T any](t *testing.T, what string, got T, e api.Errno, want T, wantError api.Errno) {
	t.Helper()
	if e != wantError || !reflect.DeepEqual(plain(got), plain(want)) {
		t.Errorf("%s: %+v, %d, not %+v, %d", what, got, e, want, wantError)
	}
}

// plain returns a value with all empty lists as nil.
func plain(x any) any { return deep(reflect.ValueOf(&x).Elem(), true).Interface() }

// deep returns a copy without common memory, also behind the ends of lists.
func deep(v reflect.Value, noEmpty bool) reflect.Value {
	out := reflect.New(v.Type()).Elem()
	switch v.Kind() {
	case reflect.Interface:
		out.Set(deep(v.Elem(), noEmpty))
	case reflect.Struct:
		for i := range v.NumField() {
			out.Field(i).Set(deep(v.Field(i), noEmpty))
		}
	case reflect.Array:
		for i := range v.Len() {
			out.Index(i).Set(deep(v.Index(i), noEmpty))
		}
	case reflect.Slice:
		if !noEmpty && !v.IsNil() {
			out = reflect.MakeSlice(v.Type(), 0, v.Len())
		}
		for i := range v.Len() {
			out = reflect.Append(out, deep(v.Index(i), noEmpty))
		}
	default:
		out.Set(v)
	}
	return out
}

func hasError(t *testing.T, what string, e, want api.Errno) {
	t.Helper()
	if e != want {
		t.Errorf("%s: %d, not %d", what, e, want)
	}
}

func pick[T any](r *rand.Rand, l ...T) T { return l[r.Intn(len(l))] }

// beyond are numbers that are a bit, or far, out of a range.
func beyond(low, high int) []int {
	return list(low-1, low-2, high+1, high+2, low-1<<32, high+1<<32, 1<<62, -1<<62, 1<<63-1, -1<<63)
}

func wrongNames() []string {
	return []string{"", "A", "1a", "_a", "a b", "a-b", "a ", " a", "a\n", "a2345678901234567", "ä", "a\x00", "\xff", strings.Repeat("a", 1000)}
}

func randomNumber(r *rand.Rand, most int) int { return r.Intn(2*most+1) - most }

// randomDuties are duties for so many samples.
func randomDuties(r *rand.Rand, samples int) []api.Duty {
	var l []api.Duty
	// So that there are at most 64.
	shortest := (samples + 63) / 64
	longest := pick(r, shortest, 20, 128)
	for from := 0; from < samples; {
		who := pick(r, "ann", "bob", "eve", "a_1")
		if len(l) > 0 && l[len(l)-1].Who == who {
			continue
		}
		to := min(samples, from+shortest+r.Intn(longest-shortest+1))
		l = append(l, duty(who, from, to))
		from = to
	}
	return l
}

// randomWork is planned work within duties, not much of it.
func randomWork(r *rand.Rand, duties []api.Duty) []api.Segment {
	var l []api.Segment
	part := r.Intn(3)
	for _, d := range duties {
		for at := d.From; at < d.To && len(l) < 16; {
			from := at + r.Intn(d.To-at)
			to := from + 1 + r.Intn(min(5, d.To-from))
			if r.Intn(5) < part {
				l = append(l, segment(from, to))
			}
			at = to + r.Intn(30)
		}
	}
	return l
}

// randomVetoes do not hold most of the time.
func randomVetoes(r *rand.Rand, samples int) []api.Veto {
	var l []api.Veto
	for _, name := range []string{"hum", "wind", "a_1"}[:r.Intn(4)] {
		v := api.Veto{Name: name}
		for range r.Intn(3) {
			from := r.Intn(samples * 3 / 2)
			v.Segments = append(v.Segments, segment(from, from+1+r.Intn(pick(r, 1, 4, 8))))
		}
		l = append(l, v)
	}
	return l
}

// randomBank has at most so many chirps.
func randomBank(r *rand.Rand, length, most int) []api.Chirp {
	var l []api.Chirp
	for many := 1 + r.Intn(most); len(l) < many; {
		c := api.Chirp{P: r.Intn(64), Q: pick(r, 0, 1, r.Intn(64))}
		if !slices.Contains(l, c) && modelNorm(modelWave(length, c)) > 0 {
			l = append(l, c)
		}
	}
	return l
}

// randomRun is a plan with samples in which there are waves of a recipe, some at the same time in both detectors.
func randomRun(r *rand.Rand) (api.Plan, api.Recipe) {
	samples := pick(r, 4+r.Intn(6), 20+r.Intn(20), 48, 60, 64+r.Intn(40))
	length := 4 + r.Intn(min(samples, 16)-3)
	recipe := api.Recipe{
		Version: 1 + r.Intn(9), Length: length, Bank: randomBank(r, length, 4), Variance: 1 + r.Intn(1000), Floor: pick(r, 0, 1, 9, 400), Window: pick(r, 2, 2+r.Intn(9), 512),
		Parts: pick(r, divisors(length, 8)...), Misfit: pick(r, 0, r.Intn(1000), r.Intn(1<<20), r.Intn(1<<24), 1<<40), Near: r.Intn(min(6, samples)), Step: pick(r, divisors(samples, samples)...),
	}
	recipe.Limit = r.Intn(samples/recipe.Step + 1)
	if r.Intn(4) == 0 {
		recipe.Near = r.Intn(samples)
	}
	p := api.Plan{Duties: randomDuties(r, samples)}
	p.Work = randomWork(r, p.Duties)
	loud := pick(r, 0, 3, 50)
	for detector := range 2 {
		p.Vetoes[detector] = randomVetoes(r, samples)
		for range samples {
			p.Data[detector] = append(p.Data[detector], randomNumber(r, loud))
		}
	}
	for range 1 + r.Intn(4) {
		at, c := r.Intn(samples-length+1), pick(r, recipe.Bank...)
		for detector := range 2 {
			addWave(p.Data[detector], min(at+r.Intn(3), samples-length), pick(r, 0, 1, 2, 10), modelWave(length, c))
		}
	}
	return p, recipe
}

// addWave adds a wave, as far as the samples do not get too great.
func addWave(data []int, at, gain int, wave []int) {
	for i, n := range wave {
		data[at+i] = min(4096, max(-4096, data[at+i]+gain*n))
	}
}

// divisors are those of n from 1 to most.
func divisors(n, most int) []int {
	var l []int
	for d := 1; d <= most; d++ {
		if n%d == 0 {
			l = append(l, d)
		}
	}
	return l
}

// change makes something of a plan another one.
type change func(p *api.Plan)

// with returns a plan with changes.
func with(p api.Plan, changes ...change) api.Plan {
	p = copied(p)
	for _, do := range changes {
		do(&p)
	}
	return p
}

// wrongSamples make a plan's samples wrong, whatever they are.
func wrongSamples() []change {
	l := []change{
		func(p *api.Plan) { p.Data = [2][]int{} },
		func(p *api.Plan) { p.Data = [2][]int{{}, {}} },
		func(p *api.Plan) { p.Data[0] = nil },
		func(p *api.Plan) { p.Data[1] = nil },
		func(p *api.Plan) { p.Data[0] = append(slices.Clone(p.Data[0]), 0) },
		func(p *api.Plan) { p.Data[1] = append(slices.Clone(p.Data[1]), 0) },
		func(p *api.Plan) { p.Data[1] = p.Data[1][:len(p.Data[1])-1] },
		func(p *api.Plan) { p.Data = [2][]int{make([]int, 513), make([]int, 513)} },
		func(p *api.Plan) { p.Data = [2][]int{make([]int, 100000), make([]int, 100000)} },
	}
	for _, n := range beyond(-4096, 4096) {
		for detector := range 2 {
			l = append(l,
				func(p *api.Plan) { p.Data[detector][0] = n },
				func(p *api.Plan) { p.Data[detector][len(p.Data[detector])-1] = n },
				func(p *api.Plan) { p.Data[detector][len(p.Data[detector])/2] = n },
			)
		}
	}
	return l
}

// wrongDuties make the duties of a plan wrong that has at least two of them.
func wrongDuties() []change {
	last := func(p *api.Plan) *api.Duty { return &p.Duties[len(p.Duties)-1] }
	l := []change{
		func(p *api.Plan) { p.Duties = nil },
		func(p *api.Plan) { p.Duties = []api.Duty{} },
		func(p *api.Plan) { p.Duties = p.Duties[1:] },
		func(p *api.Plan) { p.Duties = p.Duties[:len(p.Duties)-1] },
		func(p *api.Plan) { p.Duties = make([]api.Duty, 100000) },
		func(p *api.Plan) { slices.Reverse(p.Duties) },
		func(p *api.Plan) { p.Duties[1].Who = p.Duties[0].Who },
		func(p *api.Plan) { last(p).Who = p.Duties[len(p.Duties)-2].Who },
		func(p *api.Plan) { p.Duties[0].To++ },
		func(p *api.Plan) { p.Duties[0].To-- },
		func(p *api.Plan) { p.Duties[1].From++ },
		func(p *api.Plan) { p.Duties[1].From-- },
		func(p *api.Plan) { p.Duties[0].From++ },
		func(p *api.Plan) { p.Duties[0].To = 0; p.Duties[1].From = 0 },
		// One that lasts no time, at the beginning, between others and at the end.
		func(p *api.Plan) { p.Duties = slices.Insert(p.Duties, 0, duty("zoe", 0, 0)) },
		func(p *api.Plan) {
			p.Duties = slices.Insert(p.Duties, 1, duty("zoe", p.Duties[1].From, p.Duties[1].From))
		},
		func(p *api.Plan) { p.Duties = append(p.Duties, duty("zoe", last(p).To, last(p).To)) },
		// There and back again.
		func(p *api.Plan) {
			p.Duties = slices.Insert(p.Duties, 1, duty("zoe", p.Duties[1].From, p.Duties[1].From+1), duty("yan", p.Duties[1].From+1, p.Duties[1].From))
		},
		func(p *api.Plan) { p.Duties = append(p.Duties, duty("zoe", last(p).To, last(p).To+1)) },
		func(p *api.Plan) { p.Duties[0].From, p.Duties[0].To = -1<<63, 1<<63-1 },
	}
	for _, n := range beyond(0, 0) {
		l = append(l, func(p *api.Plan) { p.Duties[0].From = n }, func(p *api.Plan) { last(p).To += n })
	}
	for _, n := range beyond(1, 1000) {
		l = append(l, func(p *api.Plan) { p.Duties[0].To, p.Duties[1].From = n, n })
	}
	for _, name := range wrongNames() {
		l = append(l, func(p *api.Plan) { p.Duties[0].Who = name }, func(p *api.Plan) { last(p).Who = name })
	}
	return l
}

// wrongWork makes the planned work of a plan wrong.
func wrongWork() []change {
	set := func(ends ...int) change {
		return func(p *api.Plan) { p.Work = segments(ends...) }
	}
	l := []change{
		// From and To.
		set(0, 0), set(1, 1), set(2, 1), set(-1, 0), set(-1, 1), set(0, 1<<62), set(-1<<63, 1<<63-1), set(1<<63-1, -1<<63),
		// Not increasing, or with times in common.
		set(0, 1, 0, 1), set(1, 2, 0, 1), set(0, 2, 1, 2), set(0, 2, 1, 3), set(0, 3, 1, 2), set(1, 2, 1, 2), set(1, 2, 3, 3), set(0, 1, 1, 2, 1, 2),
		func(p *api.Plan) { p.Work = make([]api.Segment, 100000) },
		// Not within one duty.
		func(p *api.Plan) { p.Work = segments(p.Duties[0].To-1, p.Duties[0].To+1) },
		func(p *api.Plan) { p.Work = segments(0, p.Duties[0].To+1) },
		func(p *api.Plan) { p.Work = segments(p.Duties[0].To-1, p.Duties[1].To) },
		func(p *api.Plan) { p.Work = segments(0, len(p.Data[0])) },
		func(p *api.Plan) { p.Work = segments(len(p.Data[0])-1, len(p.Data[0])+1) },
		func(p *api.Plan) { p.Work = segments(len(p.Data[0]), len(p.Data[0])+1) },
	}
	for _, n := range beyond(0, 1<<20) {
		l = append(l, set(n, 1), set(0, n), set(0, 1, n, 2), set(0, 1, 1, n))
	}
	return l
}

// wrongVetoes make the vetoes of a detector wrong.
func wrongVetoes() []change {
	var l []change
	add := func(vetoes ...api.Veto) {
		for detector := range 2 {
			l = append(l, func(p *api.Plan) { p.Vetoes[detector] = vetoes })
		}
	}
	for _, name := range wrongNames() {
		add(veto(name, 0, 1))
		add(veto("a"), veto(name))
	}
	for _, n := range beyond(0, 1<<30) {
		add(veto("a", n, 1<<30))
		add(veto("a", 0, 1), veto("b", 0, 1, 0, n))
	}
	add(veto("a"), veto("a"))
	add(veto("a", 3, 3))
	add(veto("a", 4, 3))
	add(veto("a"), veto("b"), veto("a"))
	var thirteen []api.Veto
	for i := range 13 {
		thirteen = append(thirteen, veto(fmt.Sprint("v", i)))
	}
	add(thirteen...)
	add(api.Veto{Name: "a", Segments: slices.Repeat(segments(0, 1), 33)})
	return l
}

// wrongRecipes are not valid for the example plan, because of one thing each.
func wrongRecipes() []api.Recipe {
	l := []api.Recipe{{}}
	set := func(do func(r *api.Recipe)) {
		r := exampleRecipe()
		do(&r)
		l = append(l, r)
	}
	for _, n := range append(beyond(1, 1<<30), -5) {
		set(func(r *api.Recipe) { r.Version = n })
	}
	for _, n := range append(beyond(4, 8), 3, 9, 64) {
		set(func(r *api.Recipe) { r.Length = n })
	}
	for _, c := range [][]api.Chirp{nil, {}, chirps(0, 0), chirps(16, 0, 16, 0), chirps(16, 0, 32, 0), chirps(16, 0, -1, 0), chirps(16, 64), chirps(0, 1<<62), slices.Repeat(chirps(16, 0), 65), make([]api.Chirp, 100000)} {
		set(func(r *api.Recipe) { r.Bank = c })
	}
	var tooMany []api.Chirp
	for i := range 65 {
		tooMany = append(tooMany, api.Chirp{P: i % 64, Q: 1 + i/64})
	}
	set(func(r *api.Recipe) { r.Bank = tooMany })
	for _, n := range beyond(1, 1<<20) {
		set(func(r *api.Recipe) { r.Variance = n })
	}
	for _, n := range beyond(0, 1<<16) {
		set(func(r *api.Recipe) { r.Floor = n })
	}
	for _, n := range append(beyond(2, 512), 1, 0) {
		set(func(r *api.Recipe) { r.Window = n })
	}
	for _, n := range append(beyond(1, 8), 3, 5, 6, 7, 8, -4, -2) {
		set(func(r *api.Recipe) { r.Parts = n })
	}
	for _, n := range beyond(0, 1<<40) {
		set(func(r *api.Recipe) { r.Misfit = n })
	}
	for _, n := range append(beyond(0, 7), 8, 100) {
		set(func(r *api.Recipe) { r.Near = n })
	}
	for _, n := range append(beyond(1, 8), 3, 5, 6, 7, 16) {
		set(func(r *api.Recipe) { r.Step = n })
	}
	for _, n := range append(beyond(0, 2), 8) {
		set(func(r *api.Recipe) { r.Limit = n })
	}
	return l
}
