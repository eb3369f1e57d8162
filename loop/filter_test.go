package loop

import (
	"math/rand"
	"slices"
	"testing"

	"ringdown/api"
	"ringdown/num"
)

// P3.2: filters that are composed; zeros at the end stay.
func TestComposed(t *testing.T) {
	f, g := example(), filterOf(list("1", "0"), list("1", "1/3", "0"))
	got, e := Series(f, g)
	isFilter(t, "Series", got, e, filterOf(list("0", "1/2", "0"), list("1", "-1/6", "-1/6", "0")))
	got, e = Series(g, f)
	isFilter(t, "Series", got, e, filterOf(list("0", "1/2", "0"), list("1", "-1/6", "-1/6", "0")))
	got, e = Parallel(f, g)
	isFilter(t, "Parallel", got, e, filterOf(list("1", "0", "1/6", "0"), list("1", "-1/6", "-1/6", "0")))
	got, e = Parallel(allPole("1"), filterOf(list("-1"), list("1")))
	isFilter(t, "Parallel to the opposite", got, e, filterOf(list("0"), list("1")))
	got, e = Scaled(f, "-2/3")
	isFilter(t, "Scaled", got, e, filterOf(list("0", "-1/3"), list("1", "-1/2")))
	got, e = Scaled(f, "0")
	isFilter(t, "Scaled by 0", got, e, filterOf(list("0", "0"), list("1", "-1/2")))
	got, e = Delayed(f, 3)
	isFilter(t, "Delayed", got, e, filterOf(list("0", "0", "0", "0", "1/2"), list("1", "-1/2")))
	got, e = Delayed(f, 0)
	isFilter(t, "Delayed by 0", got, e, f)
	got, e = Delayed(allPole("1", "2"), 6)
	isFilter(t, "Delayed by 6", got, e, filterOf(list("0", "0", "0", "0", "0", "0", "1"), list("1", "2")))
}

// P3.2: filters of loops.
func TestLooped(t *testing.T) {
	for _, x := range []struct{ f, closed, left api.Filter }{
		{example(), filterOf(list("0", "1/2"), list("1", "0")), filterOf(list("1", "-1/2"), list("1", "0"))},
		{allPole("1"), filterOf(list("1/2"), list("1")), filterOf(list("1/2"), list("1"))},
		{filterOf(list("2", "3", "0"), list("1", "-1")), filterOf(list("2/3", "1", "0"), list("1", "2/3", "0")), filterOf(list("1/3", "-1/3"), list("1", "2/3", "0"))},
		{filterOf(list("-2"), list("1", "1/2", "0", "0")), filterOf(list("2"), list("1", "-1/2", "0", "0")), filterOf(list("-1", "-1/2", "0", "0"), list("1", "-1/2", "0", "0"))},
		{filterOf(list("0", "0"), list("1")), filterOf(list("0", "0"), list("1", "0")), filterOf(list("1"), list("1", "0"))},
	} {
		got, e := Closed(x.f)
		isFilter(t, "Closed", got, e, x.closed)
		got, e = Left(x.f)
		isFilter(t, "Left", got, e, x.left)
	}
}

// P3.1, P3.2: errors, and their order.
func TestComposedErrors(t *testing.T) {
	six, seven := slices.Repeat(list("1"), 6), slices.Repeat(list("1"), 7)
	long := list("1", "4093/4096")
	for _, x := range []struct {
		f, g             api.Filter
		series, parallel api.Errno
	}{
		{filterOf(six, list("1")), allPole("1", "1"), api.OK, api.OK},
		{filterOf(seven, list("1")), allPole("1", "1"), api.OK, api.ErrLimit},
		{allPole("1", "1"), filterOf(seven, list("1")), api.OK, api.ErrLimit},
		{filterOf(seven, list("1")), filterOf(list("1", "1"), list("1")), api.ErrLimit, api.OK},
		{allPole(seven...), allPole("1", "0"), api.ErrLimit, api.ErrLimit},
		{allPole(six...), allPole("1", "0"), api.OK, api.OK},
		{allPole("1", "0"), allPole(seven...), api.ErrLimit, api.ErrLimit},
		{filterOf(seven, seven), filterOf(seven, seven), api.ErrLimit, api.ErrLimit},
		{filterOf(list("4096"), list("1")), filterOf(list("2"), list("1")), api.ErrRange, api.ErrRange},
		{filterOf(list("4095"), list("1")), filterOf(list("1"), list("1")), api.OK, api.OK},
		{allPole(long...), allPole(long...), api.ErrRange, api.ErrRange},
		{filterOf(long, list("1")), filterOf(long, list("1")), api.ErrRange, api.OK},
		{filterOf(list("1/4093"), list("1")), filterOf(list("1/4091"), list("1")), api.ErrRange, api.ErrRange},
		{filterOf(list("2", "0", "0", "0"), long), filterOf(list("1", "0", "0", "4096"), long), api.ErrRange, api.ErrRange},
		{filterOf(list("4096", "0", "0", "0"), long), filterOf(list("2", "0", "0", "0", "0"), long), api.ErrLimit, api.ErrRange},
	} {
		got, e := Series(x.f, x.g)
		if e != x.series || e != api.OK && len(got.In)+len(got.Out) != 0 {
			t.Errorf("Series of %v and %v: %v, %d, not %d", x.f, x.g, got, e, x.series)
		}
		got, e = Parallel(x.f, x.g)
		if e != x.parallel || e != api.OK && len(got.In)+len(got.Out) != 0 {
			t.Errorf("Parallel of %v and %v: %v, %d, not %d", x.f, x.g, got, e, x.parallel)
		}
	}
}

// P3.1, P3.2: errors of one filter, and their order.
func TestScaledAndDelayedErrors(t *testing.T) {
	for _, k := range list("", "x", "i", "1+i", "4097", "1/4097", "2/2") {
		got, e := Scaled(filterOf(list("4096"), list("1")), k)
		noFilter(t, "Scaled", got, e, api.ErrArg)
	}
	for _, k := range list("2", "-2", "4096", "1/2", "-1/4096") {
		got, e := Scaled(filterOf(list("4096", "1/4095"), list("1")), k)
		noFilter(t, "Scaled", got, e, api.ErrRange)
	}
	got, e := Scaled(filterOf(list("1", "4096"), list("1")), "-1/4096")
	isFilter(t, "Scaled", got, e, filterOf(list("-1/4096", "-1"), list("1")))
	for _, n := range []int{-1, 7, 8, 1 << 62, -1 << 63} {
		got, e = Delayed(filterOf(slices.Repeat(list("1"), 7), list("1")), n)
		noFilter(t, "Delayed", got, e, api.ErrRange)
	}
	seven := slices.Repeat(list("1"), 7)
	for n := 1; n <= 6; n++ {
		got, e = Delayed(filterOf(seven, list("1")), n)
		noFilter(t, "Delayed", got, e, api.ErrLimit)
	}
	got, e = Delayed(example(), 6)
	noFilter(t, "Delayed", got, e, api.ErrLimit)
	got, e = Delayed(example(), 5)
	isFilter(t, "Delayed", got, e, filterOf(list("0", "0", "0", "0", "0", "0", "1/2"), list("1", "-1/2")))
}

// P3.1, P3.2: errors of loops, and their order.
func TestLoopedErrors(t *testing.T) {
	for _, f := range []api.Filter{filterOf(list("-1"), list("1")), filterOf(list("-1", "4096"), list("1", "4096")), filterOf(list("-1", "1/4093"), list("1", "1/4091"))} {
		got, e := Closed(f)
		noFilter(t, "Closed", got, e, api.ErrLoop)
		got, e = Left(f)
		noFilter(t, "Left", got, e, api.ErrLoop)
	}
	for _, f := range []api.Filter{filterOf(list("0", "4096"), list("1", "1")), filterOf(list("1/4093"), list("1", "1/4091")), filterOf(list("0", "1/4093"), list("1", "1/4091")), filterOf(list("-4095/4096"), list("1", "2"))} {
		got, e := Closed(f)
		noFilter(t, "Closed", got, e, api.ErrRange)
		got, e = Left(f)
		noFilter(t, "Left", got, e, api.ErrRange)
	}
	// Each has a result where the other one has none.
	want := filterOf(list("1/2", "1/91"), list("1", "1/90"))
	got, e := Closed(filterOf(list("1", "2/91"), list("1", "1/4095")))
	isFilter(t, "Closed", got, e, want)
	got, e = Left(filterOf(list("1", "2/91"), list("1", "1/4095")))
	noFilter(t, "Left", got, e, api.ErrRange)
	got, e = Closed(filterOf(list("1", "1/4095"), list("1", "2/91")))
	noFilter(t, "Closed", got, e, api.ErrRange)
	got, e = Left(filterOf(list("1", "1/4095"), list("1", "2/91")))
	isFilter(t, "Left", got, e, want)
}

// P3.2: what is composed, against another way to calculate it, with its errors.
func TestComposedModel(t *testing.T) {
	r := rand.New(rand.NewSource(2))
	codes := map[api.Errno]int{}
	check := func(what string, f, g, got api.Filter, e api.Errno, want api.Filter, wantError api.Errno) {
		t.Helper()
		codes[e]++
		if !sameFilter(got, want) || e != wantError {
			t.Fatalf("%s of %v and %v: %v, %d, not %v, %d", what, f, g, got, e, want, wantError)
		}
	}
	for range 2000 {
		f, g := randomFilter(r, 5), randomFilter(r, 5)
		fIn, fOut, gIn, gOut := rats(f.In), rats(f.Out), rats(g.In), rats(g.Out)
		want, wantError := asFilter(modelProduct(fIn, gIn), modelProduct(fOut, gOut))
		got, e := Series(f, g)
		check("Series", f, g, got, e, want, wantError)
		want, wantError = asFilter(modelSum(modelProduct(fIn, gOut), modelProduct(gIn, fOut)), modelProduct(fOut, gOut))
		got, e = Parallel(f, g)
		check("Parallel", f, g, got, e, want, wantError)
		sum := modelSum(fIn, fOut)
		if sum[0].Sign() == 0 {
			got, e = Closed(f)
			check("Closed", f, g, got, e, api.Filter{}, api.ErrLoop)
			continue
		}
		first := sum[0]
		for i := range sum {
			sum[i] = ratDiv(sum[i], first)
		}
		for i := range fIn {
			fIn[i] = ratDiv(fIn[i], first)
		}
		for i := range fOut {
			fOut[i] = ratDiv(fOut[i], first)
		}
		want, wantError = asFilter(fIn, sum)
		got, e = Closed(f)
		check("Closed", f, g, got, e, want, wantError)
		want, wantError = asFilter(fOut, sum)
		got, e = Left(f)
		check("Left", f, g, got, e, want, wantError)
	}
	for _, e := range []api.Errno{api.OK, api.ErrLimit, api.ErrRange, api.ErrLoop} {
		if codes[e] < 30 {
			t.Errorf("%d results with the code %d", codes[e], e)
		}
	}
}

// P3.3: outputs.
func TestRun(t *testing.T) {
	l, e := Run(example(), list("1", "2", "-3", "1/2"))
	isList(t, "Run", l, e, list("0", "1/2", "5/4", "-7/8"))
	l, e = Run(filterOf(list("2", "0", "1"), list("1")), list("1", "1", "1"))
	isList(t, "Run without feedback", l, e, list("2", "2", "3"))
	l, e = Run(allPole("1", "1"), list("1", "0", "0", "1"))
	isList(t, "Run of an echo", l, e, list("1", "-1", "1", "0"))
	l, e = Response(example(), 4)
	isList(t, "Response", l, e, list("0", "1/2", "1/4", "1/8"))
	l, e = Response(example(), 0)
	isList(t, "Response", l, e, nil)
	l, e = Response(allPole("1", "-2"), 64)
	if len(l) != 64 || e != api.OK || l[63] != "9223372036854775808" {
		t.Errorf("Response of 64: %v, %d", l, e)
	}
	r := rand.New(rand.NewSource(3))
	for range 300 {
		f, x := randomFilter(r, 7), randomRats(r, r.Intn(20))
		l, e = Run(f, texts(x))
		if want := texts(modelRun(f, x)); !slices.Equal(l, want) || e != api.OK {
			t.Fatalf("Run of %v: %v, %d, not %v", f, l, e, want)
		}
		n := r.Intn(12)
		one := rats(append(list("1"), slices.Repeat(list("0"), n)...))[:n]
		l, e = Response(f, n)
		if want := texts(modelRun(f, one)); !slices.Equal(l, want) || e != api.OK {
			t.Fatalf("Response of %v: %v, %d, not %v", f, l, e, want)
		}
	}
}

// P3.3: the longest numbers that an output can have.
func TestRunLongest(t *testing.T) {
	var x []api.Num
	for d := 4096; len(x) < api.MaxRun; d-- {
		x = append(x, text(rat(calc(num.Of(4095-2*(d%3), d)))))
	}
	growing := filterOf(longest().In, list("1", "4093/2", "-4091/3", "4079/5", "-4073/7", "4057/11", "-4051/13"))
	for _, f := range []api.Filter{longest(), growing, filterOf(longest().In, list("1", "4096", "4096", "4096", "4096", "4096", "4096")), filterOf(longest().In, list("1", "4096/4093", "4095/4091", "4095/4079", "4096/4073", "4093/4057", "4093/4051"))} {
		l, e := Run(f, x)
		if want := texts(modelRun(f, rats(x))); !slices.Equal(l, want) || e != api.OK {
			t.Errorf("%v: %v, %d", f, l, e)
		}
	}
}

// P3.3: errors, and their order.
func TestRunErrors(t *testing.T) {
	for _, a := range list("", "x", "i", "1+i", "4097", "1/4097", "2/4") {
		l, e := Run(example(), list("1", a))
		noList(t, "Run", l, e, api.ErrArg)
		l, e = Run(example(), append(slices.Repeat(list("1"), 63), a))
		noList(t, "Run", l, e, api.ErrArg)
		l, e = Run(example(), append(slices.Repeat(list("1"), 64), a))
		noList(t, "Run", l, e, api.ErrLimit)
	}
	l, e := Run(example(), slices.Repeat(list("1"), 65))
	noList(t, "Run", l, e, api.ErrLimit)
	l, e = Run(example(), slices.Repeat(list("0"), 64))
	isList(t, "Run", l, e, slices.Repeat(list("0"), 64))
	for _, n := range []int{-1, 65, 1 << 62, -1 << 63} {
		l, e = Response(example(), n)
		noList(t, "Response", l, e, api.ErrRange)
	}
}

// P3.3: transfers.
func TestTransfer(t *testing.T) {
	for _, x := range []struct {
		f    api.Filter
		z    api.Num
		want api.Num
		e    api.Errno
	}{
		{example(), "-1", "-1/3", api.OK}, {example(), "1", "1", api.OK}, {example(), "i", "-1/5-2/5i", api.OK}, {example(), "1/4", "-2", api.OK},
		{example(), "1/2", "", api.ErrPole}, {example(), "0", "", api.ErrPole}, {allPole("1"), "0", "", api.ErrPole}, {allPole("1", "0"), "0", "", api.ErrPole},
		{allPole("1"), "4096-1/4096i", "1", api.OK}, {filterOf(list("0"), list("1", "-2")), "1", "0", api.OK}, {filterOf(list("0"), list("1", "-2")), "2", "", api.ErrPole},
		{filterOf(list("1", "-2"), list("1", "-2")), "2", "", api.ErrPole}, {filterOf(list("1", "-2"), list("1", "-2")), "3", "1", api.OK},
		{allPole("1", "0", "1"), "i", "", api.ErrPole}, {allPole("1", "0", "1"), "-i", "", api.ErrPole}, {allPole("1", "-6/5", "1"), "3/5+4/5i", "", api.ErrPole}, {allPole("1", "-6/5", "1"), "1+i", "40/17-10/17i", api.OK},
		{example(), "", "", api.ErrArg}, {example(), "x", "", api.ErrArg}, {example(), "4097", "", api.ErrArg}, {example(), "1/4097", "", api.ErrArg}, {example(), "1+4097i", "", api.ErrArg}, {example(), "1-1/4097i", "", api.ErrArg}, {example(), "2/4", "", api.ErrArg}, {example(), "0+i", "", api.ErrArg},
	} {
		got, e := Transfer(x.f, x.z)
		is(t, "Transfer at "+string(x.z), got, e, x.want, x.e)
	}
	z := api.Num("4093/4091+4079/4073i")
	got, e := Transfer(longest(), z)
	var above, below []api.Num
	for k, c := range longest().In {
		above = append(above, calc(num.Mul(c, calc(num.Power(z, -k)))))
	}
	for k, c := range longest().Out {
		below = append(below, calc(num.Mul(c, calc(num.Power(z, -k)))))
	}
	is(t, "Transfer of the longest", got, e, calc(num.Div(calc(num.Sum(above)), calc(num.Sum(below)))), api.OK)
}
