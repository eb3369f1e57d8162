package search

import (
	"math/rand"
	"reflect"
	"slices"
	"testing"

	"ringdown/api"
)

// arguments are what all functions are called with.
type arguments struct {
	a, b                         []api.Trigger
	live, window, step, d, limit int
	statistics                   []int
	x                            []int
	threshold, from, to          int
	waves                        []api.Wave
	key                          int
}

func randomArguments(seed int64) arguments {
	r := rand.New(rand.NewSource(seed))
	var a arguments
	a.live, a.window, a.step = randomClock(r, 20)
	a.a, a.b = randomTriggers(r, 20, a.live), randomTriggers(r, 20, a.live)
	a.d, a.limit = r.Intn(a.live), r.Intn(a.live/a.step+1)
	a.statistics = randomList(r, 1+r.Intn(20), 9)
	a.x = randomList(r, 1+r.Intn(60), 9)
	a.threshold, a.to = 1+r.Intn(200), 1+r.Intn(len(a.x))
	a.from = 1 + r.Intn(a.to)
	a.waves = randomWaves(r, len(a.x), 6)
	for i := range a.waves {
		// So that the record with all of them is one.
		a.waves[i].Gain %= 9
	}
	a.key = r.Intn(1<<30 + 1)
	return a
}

// results are those of all functions, and their errors.
func results(a arguments) []any {
	var all []any
	two := func(x any, e api.Errno) { all = append(all, x, e) }
	all = append(all, CheckTriggers(a.a), CheckTriggers(a.b))
	p, e := Coincide(a.a, a.b, a.live, a.window)
	two(p, e)
	two(Loudest(a.a, a.b, a.live, a.window))
	t, e := Slide(a.b, a.live, a.d)
	two(t, e)
	t, e = Slide(a.b, a.live, 0)
	two(t, e)
	s, e := Statistics(a.a, a.b, a.live, a.window, a.step)
	two(s, e)
	two(Chance(a.statistics, a.d))
	c, e := Candidates(a.a, a.b, a.live, a.window, a.step, a.limit)
	two(c, e)
	b, e := Bursts(a.x, a.from, a.threshold)
	two(b, e)
	f, e := Fold(a.x, a.from)
	two(f, e)
	two(Compare(a.x, a.from, a.to))
	two(Period(a.x, a.from, a.to))
	after, e := Inject(a.x, a.waves)
	two(slices.Clone(after), e)
	none, e := Inject(a.x, nil)
	two(none, e)
	envelope, e := Seal(a.x, a.waves, a.key)
	two(envelope, e)
	before, e := Open(envelope, after, a.waves, a.key)
	two(before, e)
	found, e := Found(a.a, a.waves, len(a.x), a.window)
	two(found, e)
	return append(all, after)
}

// spoil overwrites all lists of results, also behind their ends.
func spoil(all []any) {
	for _, a := range all {
		switch l := a.(type) {
		case []int:
			fill(l, 77)
		case []bool:
			fill(l, true)
		case []api.Pair:
			fill(l, api.Pair{A: 77})
		case []api.Trigger:
			fill(l, api.Trigger{Time: 77})
		case []api.Candidate:
			fill(l, api.Candidate{Pair: api.Pair{A: 77}})
		case []api.Burst:
			fill(l, api.Burst{From: 77})
		}
	}
}

func fill[T any](l []T, x T) {
	l = l[:cap(l)]
	for i := range l {
		l[i] = x
	}
}

// P8.8, P1, P2: arguments are neither changed nor kept, and results are the same each time, whatever is done with those before.
func TestArgumentsAndResults(t *testing.T) {
	for seed := range int64(300) {
		a := randomArguments(seed)
		first := results(a)
		if !reflect.DeepEqual(a, randomArguments(seed)) {
			t.Fatalf("%v: arguments were changed", randomArguments(seed))
		}
		for i, x := range first {
			if e, ok := x.(api.Errno); ok && e != api.OK {
				t.Fatalf("%v: result %d: %d", a, i, e)
			}
		}
		spoil(first)
		if !reflect.DeepEqual(a, randomArguments(seed)) {
			t.Fatalf("%v: results share memory with arguments", randomArguments(seed))
		}
		if second, third := results(a), results(randomArguments(seed)); !reflect.DeepEqual(second, third) {
			t.Fatalf("%v, %v", second, third)
		}
	}
}

// behind returns a list with the same elements, and room for others behind them that are x.
func behind[T any](l []T, x T) []T {
	many := len(l)
	l = append(slices.Clone(l), slices.Repeat([]T{x}, 20)...)
	return l[:many]
}

func isBehind[T comparable](l []T, x T) bool {
	return !slices.ContainsFunc(l[:len(l)+20][len(l):], func(y T) bool { return y != x })
}

// P8.8: what is behind the end of an argument is not changed either, nor is it in a result.
func TestBehindArguments(t *testing.T) {
	for seed := range int64(100) {
		a := randomArguments(seed)
		want := results(a)
		wrong := api.Trigger{Time: -5}
		a.a, a.b, a.x, a.statistics = behind(a.a, wrong), behind(a.b, wrong), behind(a.x, 5), behind(a.statistics, 5)
		a.waves = behind(a.waves, api.Wave{})
		for i := range a.waves {
			a.waves[i].Samples = behind(a.waves[i].Samples, 5)
		}
		got := results(a)
		if !reflect.DeepEqual(got, want) {
			t.Fatalf("%v, not %v", got, want)
		}
		spoil(got)
		isKept := isBehind(a.a, wrong) && isBehind(a.b, wrong) && isBehind(a.x, 5) && isBehind(a.statistics, 5)
		for _, w := range a.waves {
			isKept = isKept && isBehind(w.Samples, 5)
		}
		for _, w := range a.waves[:len(a.waves)+20][len(a.waves):] {
			isKept = isKept && w.At == 0 && w.Gain == 0 && w.Samples == nil
		}
		if !isKept {
			t.Fatalf("%v: something behind was changed", a)
		}
	}
}

// P1: nil and empty arguments are the same.
func TestNilAndEmpty(t *testing.T) {
	for _, none := range [][]api.Trigger{nil, {}} {
		hasError(t, "CheckTriggers", CheckTriggers(none), api.OK)
		p, e := Coincide(none, none, 9, 3)
		isList(t, "Coincide", p, e, nil, api.OK)
		n, e := Loudest(none, exampleB(), 100, 3)
		is(t, "Loudest", n, e, -1, api.OK)
		l, e := Slide(none, 9, 3)
		isList(t, "Slide", l, e, nil, api.OK)
		s, e := Statistics(exampleA(), none, 100, 3, 50)
		isList(t, "Statistics", s, e, list(-1, -1), api.OK)
		c, e := Candidates(none, none, 9, 3, 3, 3)
		isList(t, "Candidates", c, e, nil, api.OK)
		for _, w := range [][]api.Wave{nil, {}} {
			found, e := Found(none, w, 0, 0)
			isList(t, "Found", found, e, nil, api.OK)
		}
	}
	for _, none := range lists(nil, list()) {
		chance, e := Chance(none, 0)
		is(t, "Chance", chance, e, api.Chance{}, api.ErrArg)
		b, e := Bursts(none, 1, 1)
		isList(t, "Bursts", b, e, nil, api.OK)
		l, e := Fold(none, 1)
		isList(t, "Fold", l, e, nil, api.ErrRange)
		n, e := Compare(none, 1, 1)
		is(t, "Compare", n, e, 0, api.ErrRange)
		n, e = Period(none, 1, 1)
		is(t, "Period", n, e, 0, api.ErrRange)
		for _, w := range [][]api.Wave{nil, {}} {
			l, e = Inject(none, w)
			isList(t, "Inject", l, e, nil, api.OK)
			s, e := Seal(none, w, 4)
			is(t, "Seal", s, e, api.Envelope{Code: 5}, api.OK)
			l, e = Open(s, none, w, 4)
			isList(t, "Open", l, e, nil, api.OK)
		}
		_, e = Inject(list(0), waves(api.Wave{Samples: none}))
		hasError(t, "Inject", e, api.ErrWaves)
	}
}
