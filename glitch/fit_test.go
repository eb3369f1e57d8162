package glitch

import (
	"fmt"
	"math/big"
	"math/rand"
	"slices"
	"testing"

	"ringdown/api"
	"ringdown/num"
)

// wrongFitted are no signals that are fitted.
func wrongFitted() [][]int {
	l := lists(nil, list(), make([]int, 65), make([]int, 128), make([]int, 1000))
	for _, n := range list(1<<20+1, -1<<20-1, 1<<31, 1<<62, 1<<63-1, -1<<63) {
		l = append(l, list(n), list(0, n), list(n, 0, 0), append(make([]int, 63), n))
	}
	return l
}

// wrongWitnesses are none for a signal of three samples.
func wrongWitnesses() [][][]int {
	one, few, many := list(1, 2, 3), list(1, 2), list(1, 2, 3, 4)
	l := [][][]int{
		nil, {}, {nil}, {{}}, {one, nil}, {few}, {many}, {one, few}, {few, one}, {one, many}, {many, one}, {one, one, one, few}, {list(1), list(2), list(3)},
		slices.Repeat(lists(one), 5), slices.Repeat(lists(one), 1000), slices.Repeat(lists(few), 5),
	}
	for _, n := range list(1<<20+1, -1<<20-1, 1<<31, 1<<62, 1<<63-1, -1<<63) {
		l = append(l, lists(list(n, 0, 0)), lists(list(0, 0, n)), lists(one, list(0, n, 0)), lists(list(0, n, 0), one))
	}
	return l
}

// P6.4: ErrSignal comes first, then ErrWitness.
func TestErrorsOfWitnesses(t *testing.T) {
	all := func(what string, y []int, witnesses [][]int, fit []api.Num, want api.Errno) {
		t.Helper()
		f, rest, e := Fit(y, witnesses)
		hasFit(t, what, f, rest, e, nil, "", want)
		rest, e = Rest(y, witnesses, fit)
		is(t, what, rest, e, "", want)
		left, e := Clean(y, witnesses, fit)
		isList(t, what, left, e, nil, want)
	}
	for _, fit := range [][]api.Num{nil, {"1"}, {"x"}, {"1", "1"}} {
		for _, y := range wrongFitted() {
			for _, witnesses := range append(wrongWitnesses(), lists(y), lists(list(1, 2, 3))) {
				all(fmt.Sprint(len(y)), y, witnesses, fit, api.ErrSignal)
			}
		}
		for _, witnesses := range wrongWitnesses() {
			all(fmt.Sprint(witnesses), list(4, 5, 6), witnesses, fit, api.ErrWitness)
		}
	}
}

// P6.4: the examples, and fits of which there are several that are best.
func TestFit(t *testing.T) {
	most := 1 << 20
	line := lists(list(1, 1, 1), list(0, 1, 2))
	for _, c := range []struct {
		y         []int
		witnesses [][]int
		fit       []api.Num
		rest      api.Num
		e         api.Errno
	}{
		{list(1, 2, 3), line, nums("1", "1"), "0", api.OK}, {list(1, 2, 2), line, nums("7/6", "1/2"), "1/6", api.OK}, {list(0, 0, 0), line, nums("0", "0"), "0", api.OK}, {list(1, -2, 1), line, nums("0", "0"), "6", api.OK}, {list(2, 1, 0), line, nums("2", "-1"), "0", api.OK},
		{list(5), lists(list(2)), nums("5/2"), "0", api.OK}, {list(-5), lists(list(2)), nums("-5/2"), "0", api.OK}, {list(1, 2), lists(list(3, 4)), nums("11/25"), "4/25", api.OK}, {list(1, 2, 3), lists(list(1, 0, 0), list(0, 1, 0), list(0, 0, 1)), nums("1", "2", "3"), "0", api.OK}, {list(1, 2, 3), lists(list(0, 0, 1), list(0, 7, 0)), nums("3", "2/7"), "1", api.OK},
		{list(1, 2, 3, 4), lists(list(1, 0, 0, 0), list(1, 1, 0, 0), list(1, 1, 1, 0), list(1, 1, 1, 1)), nums("-1", "-1", "-1", "4"), "0", api.OK},
		{slices.Repeat(list(most), 64), lists(slices.Repeat(list(-most), 64)), nums("-1"), "0", api.OK}, {slices.Repeat(list(most, -most), 32), lists(slices.Repeat(list(-most), 64)), nums("0"), "70368744177664", api.OK}, {make([]int, 64), lists(slices.Repeat(list(1), 64)), nums("0"), "0", api.OK},
		{append(make([]int, 63), most), lists(append(make([]int, 63), 1)), nums("1048576"), "0", api.OK},
		{list(1, 2, 3), lists(list(0, 0, 0)), nil, "", api.ErrSingular}, {list(0), lists(list(0)), nil, "", api.ErrSingular}, {list(1, 2, 3), lists(list(1, 2, 3), list(1, 2, 3)), nil, "", api.ErrSingular}, {list(1, 2, 3), lists(list(1, 2, 3), list(-2, -4, -6)), nil, "", api.ErrSingular}, {list(1, 2, 3), lists(list(1, 2, 3), list(0, 0, 0)), nil, "", api.ErrSingular},
		{list(1, 2, 3), lists(list(1, 0, 1), list(0, 1, 0), list(2, 3, 2)), nil, "", api.ErrSingular}, {list(1), lists(list(1), list(1)), nil, "", api.ErrSingular}, {list(1, 2, 3), lists(list(1, 0, 0), list(0, 1, 0), list(0, 0, 1), list(1, 1, 1)), nil, "", api.ErrSingular},
		{list(0, 0, 0), lists(list(most, most, most), list(most, most, most-1)), nums("0", "0"), "0", api.OK},
	} {
		what := fmt.Sprint(c.y[:min(4, len(c.y))])
		fit, rest, e := Fit(c.y, c.witnesses)
		hasFit(t, what, fit, rest, e, c.fit, c.rest, c.e)
	}
}

// P6.4: Rest and Clean, also of fits that are not the best, or of which there are several.
func TestRestAndClean(t *testing.T) {
	line := lists(list(1, 1, 1), list(0, 1, 2))
	for _, c := range []struct {
		y         []int
		witnesses [][]int
		fit       []api.Num
		rest      api.Num
		left      []api.Num
	}{
		{list(1, 2, 3), line, nums("1", "1"), "0", nums("0", "0", "0")}, {list(1, 2, 2), line, nums("7/6", "1/2"), "1/6", nums("-1/6", "1/3", "-1/6")}, {list(1, 2, 2), line, nums("0", "0"), "9", nums("1", "2", "2")}, {list(1, 2, 2), line, nums("-1/3", "1"), "11/3", nums("4/3", "4/3", "1/3")},
		{list(5), lists(list(2)), nums("5/2"), "0", nums("0")}, {list(5), lists(list(0)), nums("5/2"), "25", nums("5")}, {list(1, 2), lists(list(1, 2), list(2, 4), list(0, 0), list(1, 1)), nums("1", "1", digits(200), "-2"), "4", nums("0", "-2")},
		{list(0), lists(list(1)), nums(digits(200)), numOf(ratOf(digits(200)).Mul(ratOf(digits(200)), ratOf(digits(200)))), nums("-" + digits(200))}, {list(1), lists(list(0)), nums("-1/" + digits(200)), "1", nums("1")},
	} {
		what := fmt.Sprint(c.y, c.fit)
		left, e := Clean(c.y, c.witnesses, c.fit)
		isList(t, what, left, e, c.left, api.OK)
		rest, e := Rest(c.y, c.witnesses, c.fit)
		is(t, what, rest, e, c.rest, api.OK)
	}
}

// P6.4: the errors of fits, in their order.
func TestErrorsOfFits(t *testing.T) {
	long := digits(201)
	for _, c := range []struct {
		fit []api.Num
		e   api.Errno
	}{
		{nil, api.ErrArg}, {nums("1"), api.ErrArg}, {nums("1", "1", "1"), api.ErrArg}, {nums("x"), api.ErrArg}, {nums("i", "x", long), api.ErrArg}, {slices.Repeat(nums("1"), 1000), api.ErrArg},
		{nums("x", "1"), api.ErrNum}, {nums("1", "x"), api.ErrNum}, {nums("", "1"), api.ErrNum}, {nums("1", ""), api.ErrNum}, {nums("2/4", "1"), api.ErrNum}, {nums("+1", "1"), api.ErrNum}, {nums("1", "01"), api.ErrNum}, {nums("1", "1.0"), api.ErrNum}, {nums("1", digits(2001)), api.ErrNum}, {nums("-0", "1"), api.ErrNum}, {nums("1", "0i"), api.ErrNum},
		{nums("i", "1"), api.ErrReal}, {nums("1", "i"), api.ErrReal}, {nums("1", "1-1/2i"), api.ErrReal}, {nums("1", long+"i"), api.ErrReal},
		// The first number with an error decides; a long one has none yet.
		{nums("x", "i"), api.ErrNum}, {nums("i", "x"), api.ErrReal}, {nums(long, "x"), api.ErrNum}, {nums("x", long), api.ErrNum}, {nums(long, "i"), api.ErrReal}, {nums("i", long), api.ErrReal}, {nums(long+"+i", "x"), api.ErrReal},
		{nums(long, "1"), api.ErrRange}, {nums("1", long), api.ErrRange}, {nums("-"+long, "1"), api.ErrRange}, {nums("1", "1/"+long), api.ErrRange}, {nums("1", "-2/"+long), api.ErrRange}, {nums("1", long+"/2"), api.ErrRange}, {nums(digits(2000), "1"), api.ErrRange}, {nums("1", "1/1"+api.Num(digits(200))), api.ErrRange}, {nums(long, long), api.ErrRange},
	} {
		// Also where there are several best fits.
		for _, witnesses := range [][][]int{{list(1, 1, 1), list(0, 1, 2)}, {list(0, 0, 0), list(0, 0, 0)}} {
			what := fmt.Sprint(c.fit)
			rest, e := Rest(list(1, 2, 3), witnesses, c.fit)
			is(t, what, rest, e, "", c.e)
			left, e := Clean(list(1, 2, 3), witnesses, c.fit)
			isList(t, what, left, e, nil, c.e)
		}
	}
}

// longFit has numbers with the most digits; no two denominators have a common divisor.
func longFit() []api.Num {
	top := new(big.Int).Exp(big.NewInt(10), big.NewInt(200), nil)
	top.Sub(top, big.NewInt(1))
	bottom, all := new(big.Int).Set(top), new(big.Int).Set(top)
	var fit []api.Num
	for len(fit) < 4 {
		bottom.Sub(bottom, big.NewInt(1))
		if new(big.Int).GCD(nil, nil, bottom, all).String() == "1" {
			all.Mul(all, bottom)
			fit = append(fit, api.Num(top.String()+"/"+bottom.String()))
		}
	}
	fit[1], fit[3] = "-"+fit[1], "-"+fit[3]
	return fit
}

// P6.4: no result is too long, with the longest numbers.
func TestLongFits(t *testing.T) {
	r := rand.New(rand.NewSource(8))
	most := slices.Repeat(list(1<<20), 64)
	for range 3 {
		y, fit := most, longFit()
		witnesses := lists(most, slices.Repeat(list(-1<<20, 1<<20), 32), randomList(r, 64, 1<<20), randomList(r, 64, 1<<20))
		r.Shuffle(len(fit), func(i, k int) { fit[i], fit[k] = fit[k], fit[i] })
		rest, e := Rest(y, witnesses, fit)
		is(t, "Rest", rest, e, modelRest(y, witnesses, fit), api.OK)
		if len(rest) < 3000 {
			t.Errorf("only %d digits", len(rest))
		}
		left, e := Clean(y, witnesses, fit)
		isList(t, "Clean", left, e, modelLeft(y, witnesses, fit), api.OK)
	}
}

func modelLeft(y []int, witnesses [][]int, fit []api.Num) []api.Num {
	var l []api.Num
	for _, x := range modelClean(y, witnesses, fit) {
		l = append(l, numOf(x))
	}
	return l
}

// P6.4: as the definition says.
func TestFitOfRandomSignals(t *testing.T) {
	r := rand.New(rand.NewSource(9))
	singular := 0
	for range 1000 {
		samples := 1 + r.Intn(pick(r, 3, 6, 64))
		y, witnesses := randomList(r, samples, pick(r, 1, 5, api.MaxSignal)), randomWitnesses(r, samples)
		what := fmt.Sprint(y, witnesses)
		fit, rest, e := Fit(y, witnesses)
		if want, ok := modelFit(y, witnesses); ok {
			hasFit(t, what, fit, rest, e, want, modelRest(y, witnesses, want), api.OK)
		} else {
			hasFit(t, what, fit, rest, e, nil, "", api.ErrSingular)
			singular++
		}
		fit = randomFit(r, len(witnesses))
		rest, e = Rest(y, witnesses, fit)
		is(t, what, rest, e, modelRest(y, witnesses, fit), api.OK)
		left, e := Clean(y, witnesses, fit)
		isList(t, what, left, e, modelLeft(y, witnesses, fit), api.OK)
	}
	if singular < 100 || singular > 900 {
		t.Errorf("%d of 1000 have several best fits", singular)
	}
}

// P6.10: what the best fit leaves has the sum of products 0 with each witness, and no other fit leaves less.
func TestBestFit(t *testing.T) {
	r := rand.New(rand.NewSource(10))
	for range 300 {
		samples := 4 + r.Intn(8)
		y, witnesses := randomList(r, samples, 100), randomWitnesses(r, samples)
		fit, rest, e := Fit(y, witnesses)
		if e == api.ErrSingular {
			continue
		}
		left := must[[]api.Num](t)(Clean(y, witnesses, fit))
		for _, w := range witnesses {
			var numbers []api.Num
			for _, n := range w {
				numbers = append(numbers, api.Num(fmt.Sprint(n)))
			}
			product, e := num.Dot(left, numbers)
			is(t, fmt.Sprint(y, witnesses), product, e, "0", api.OK)
		}
		square, e := num.Dot(left, left)
		is(t, "rest", rest, e, square, api.OK)
		again, e := Rest(y, witnesses, fit)
		is(t, "Rest", again, e, rest, api.OK)
		for i := range fit {
			other := slices.Clone(fit)
			other[i] = must[api.Num](t)(num.Add(fit[i], pick[api.Num](r, "1", "-1", "1/1000", "-1/1000")))
			more := must[api.Num](t)(Rest(y, witnesses, other))
			is(t, "another fit", must[int](t)(num.Cmp(more, rest)), api.OK, 1, api.OK)
		}
	}
}
