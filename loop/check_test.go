package loop

import (
	"math/rand"
	"reflect"
	"slices"
	"strings"
	"testing"

	"ringdown/api"
)

// P3.1: filters that are valid.
func TestCheck(t *testing.T) {
	sevenths := list("1/7", "2/7", "3/7", "4/7", "5/7", "6/7", "1")
	for _, f := range []api.Filter{
		example(), longest(), allPole("1"), filterOf(list("0"), list("1")), filterOf(list("4096", "-4096", "1/4096", "-4095/4096", "4096/4095"), list("1", "4096", "-1/4096")),
		filterOf(sevenths, list("1", "0", "0", "0", "0", "0", "0")), filterOf(list("0", "0"), list("1", "0")),
	} {
		if e := Check(f); e != api.OK {
			t.Errorf("%v: %d", f, e)
		}
	}
	for _, f := range wrongFilters() {
		if e := Check(f); e != api.ErrFilter {
			t.Errorf("%v: %d", f, e)
		}
	}
}

func wrongFilters() []api.Filter {
	filters := []api.Filter{
		{}, {In: list("1")}, {Out: list("1")}, filterOf([]api.Num{}, list("1")), filterOf(list("1"), []api.Num{}),
		filterOf(slices.Repeat(list("1"), 8), list("1")), filterOf(list("1"), slices.Repeat(list("1"), 8)), filterOf(slices.Repeat(list("0"), 8), list("1")), filterOf(list("1"), list("1", "0", "0", "0", "0", "0", "0", "0")), filterOf(make([]api.Num, 1000), list("1")),
		allPole("2"), allPole("0", "1"), allPole("-1"), allPole("1/2", "1"), allPole("i"), allPole("1+i"),
	}
	long := api.Num(strings.Repeat("7", 2000))
	for _, a := range list("", "x", "i", "1+i", "1-1/2i", "4097", "-4097", "1/4097", "4097/4096", "2/4", "01", "+1", "1.0", "1/0", " 1", "18446744073709551617", long, "1/"+long, long+"7") {
		filters = append(filters, filterOf(list(a), list("1")), filterOf(list("1", "0", a), list("1")), allPole("1", a), allPole("1", "0", "0", "0", "0", "0", a), allPole(a))
	}
	return filters
}

// P3.1: ErrFilter comes before all other errors, for each of the filters.
func TestFilterFirst(t *testing.T) {
	good, many := example(), slices.Repeat(list("x"), 65)
	for _, f := range wrongFilters() {
		for _, x := range []struct {
			what string
			call func() (api.Filter, api.Errno)
		}{
			{"Series", func() (api.Filter, api.Errno) { return Series(f, good) }},
			{"Series", func() (api.Filter, api.Errno) { return Series(good, f) }},
			{"Series", func() (api.Filter, api.Errno) { return Series(longest(), f) }},
			{"Parallel", func() (api.Filter, api.Errno) { return Parallel(f, good) }},
			{"Parallel", func() (api.Filter, api.Errno) { return Parallel(longest(), f) }},
			{"Scaled", func() (api.Filter, api.Errno) { return Scaled(f, "x") }},
			{"Delayed", func() (api.Filter, api.Errno) { return Delayed(f, -1) }},
			{"Delayed", func() (api.Filter, api.Errno) { return Delayed(f, 7) }},
			{"Closed", func() (api.Filter, api.Errno) { return Closed(f) }},
			{"Left", func() (api.Filter, api.Errno) { return Left(f) }},
		} {
			got, e := x.call()
			noFilter(t, x.what, got, e, api.ErrFilter)
		}
		l, e := Run(f, many)
		noList(t, "Run", l, e, api.ErrFilter)
		l, e = Response(f, -1)
		noList(t, "Response", l, e, api.ErrFilter)
		a, e := Transfer(f, "0")
		is(t, "Transfer", a, e, "", api.ErrFilter)
		yes, e := Stable(f)
		is(t, "Stable", yes, e, false, api.ErrFilter)
		l, e = Prove(f)
		noList(t, "Prove", l, e, api.ErrFilter)
		yes, e = Proves(f, nil)
		is(t, "Proves", yes, e, false, api.ErrFilter)
		yes, e = Within(f, "2")
		is(t, "Within", yes, e, false, api.ErrFilter)
		n, e := Radius(f)
		is(t, "Radius", n, e, 0, api.ErrFilter)
		a, e = Energy(f)
		is(t, "Energy", a, e, "", api.ErrFilter)
		holds, e := Holds(f, many)
		if len(holds) != 0 || e != api.ErrFilter {
			t.Errorf("Holds: %v, %d", holds, e)
		}
		yes, e = Certain(f, "x", "1")
		is(t, "Certain", yes, e, false, api.ErrFilter)
		margin, e := Window(f, many, -1)
		is(t, "Window", margin, e, api.Margin{}, api.ErrFilter)
		n, e = Delays(f)
		is(t, "Delays", n, e, 0, api.ErrFilter)
	}
}

// results calls all functions, and returns what they return.
func results(f, g api.Filter, x, gains []api.Num) []any {
	var all []any
	keep := func(values ...any) { all = append(all, values...) }
	two := func(a any, e api.Errno) { keep(a, e) }
	keep(Check(f))
	two(Series(f, g))
	two(Parallel(f, g))
	two(Scaled(f, "1"))
	two(Delayed(f, 0))
	two(Delayed(f, 1))
	two(Closed(f))
	two(Left(f))
	two(Run(f, x))
	two(Response(f, 5))
	two(Transfer(f, "2+i"))
	two(Stable(f))
	two(Prove(f))
	two(Proves(f, x))
	two(Within(f, "1/2"))
	two(Radius(f))
	two(Energy(f))
	two(Holds(f, gains))
	two(Certain(f, gains[0], gains[1]))
	two(Window(f, gains, 1))
	two(Delays(f))
	return all
}

// spoil overwrites all lists of results.
func spoil(all []any) {
	for _, a := range all {
		switch l := a.(type) {
		case []api.Num:
			for i := range l {
				l[i] = "spoilt"
			}
		case []bool:
			for i := range l {
				l[i] = !l[i]
			}
		case api.Filter:
			// If In and Out shared memory, this would be seen in Out.
			in := append(l.In[:len(l.In):len(l.In)], "x")
			spoil([]any{l.In, l.Out, in})
		}
	}
}

// P3.9, P1, P2: arguments are neither changed nor kept, and results are the same each time, whatever is done with those before.
func TestArgumentsAndResults(t *testing.T) {
	r := rand.New(rand.NewSource(1))
	for range 100 {
		f, g := randomFilter(r, 7), randomFilter(r, 3)
		if r.Intn(2) == 0 {
			f = randomStable(r)
		}
		x, gains := randomSide(r, r.Intn(8)), list("-1/2", "1/3", "2")
		fCopy, gCopy, xCopy, gainsCopy := cloneOf(f), cloneOf(g), slices.Clone(x), slices.Clone(gains)
		first := results(fCopy, gCopy, xCopy, gainsCopy)
		if !sameFilter(f, fCopy) || !sameFilter(g, gCopy) || !slices.Equal(x, xCopy) || !slices.Equal(gains, gainsCopy) {
			t.Fatalf("%v, %v, %v: arguments were changed", f, g, x)
		}
		spoil(first)
		if !sameFilter(f, fCopy) || !sameFilter(g, gCopy) || !slices.Equal(x, xCopy) || !slices.Equal(gains, gainsCopy) {
			t.Fatalf("%v, %v, %v: results share memory with arguments", f, g, x)
		}
		second, third := results(fCopy, gCopy, xCopy, gainsCopy), results(f, g, x, gains)
		if !reflect.DeepEqual(second, third) {
			t.Fatalf("%v, %v, %v: %v, %v", f, g, x, second, third)
		}
	}
}

// P3.9: nothing is spoilt in Out if In is, and the other way round.
func TestSidesShareNothing(t *testing.T) {
	f := filterOf(list("1", "1/2"), list("1", "1/2"))
	for what, result := range map[string]api.Filter{
		"Series": calc(Series(f, allPole("1"))), "Parallel": calc(Parallel(f, f)), "Scaled": calc(Scaled(f, "1")), "Delayed": calc(Delayed(f, 0)), "Closed": calc(Closed(f)), "Left": calc(Left(f)),
	} {
		out := slices.Clone(result.Out)
		for i := range result.In {
			result.In[i] = "spoilt"
		}
		_ = append(result.In, "spoilt", "spoilt")
		if !slices.Equal(result.Out, out) {
			t.Errorf("%s: In and Out share memory", what)
		}
	}
	same := list("1", "1/2")
	shared := api.Filter{In: same, Out: same}
	if got := calc(Closed(shared)); !sameFilter(got, filterOf(list("1/2", "1/4"), list("1", "1/2"))) || !slices.Equal(same, list("1", "1/2")) {
		t.Errorf("a filter whose sides share memory: %v, %v", got, same)
	}
}

// P1: nil and empty arguments are the same.
func TestNilAndEmpty(t *testing.T) {
	for _, none := range [][]api.Num{nil, {}} {
		l, e := Run(example(), none)
		isList(t, "Run", l, e, nil)
		holds, e := Holds(example(), none)
		if len(holds) != 0 || e != api.OK {
			t.Errorf("Holds: %v, %d", holds, e)
		}
		margin, e := Window(example(), none, 0)
		is(t, "Window", margin, e, api.Margin{}, api.ErrArg)
		yes, e := Proves(allPole("1"), none)
		is(t, "Proves", yes, e, true, api.OK)
		yes, e = Proves(example(), none)
		is(t, "Proves", yes, e, false, api.OK)
	}
}
