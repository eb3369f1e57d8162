package loop

import (
	"math/big"
	"math/rand"
	"slices"
	"testing"

	"ringdown/api"
	"ringdown/num"
)

// simpleFilter has few and short numbers, so that what is composed of two has short ones too, and what goes out of one can go into the other.
func simpleFilter(r *rand.Rand) api.Filter {
	side := func() []api.Num {
		l := make([]api.Num, r.Intn(3)+1)
		for i := range l {
			l[i] = pick[api.Num](r, "0", "1", "-1", "2", "1/2", "-1/2")
		}
		return l
	}
	out := side()
	out[0] = "1"
	return filterOf(side(), out)
}

func simpleSamples(r *rand.Rand, n int) []api.Num {
	l := make([]api.Num, n)
	for i := range l {
		l[i] = pick[api.Num](r, "0", "1", "-2", "1/2", "3")
	}
	return l
}

func withEach(a, b []api.Num, f func(a, b api.Num) (api.Num, api.Errno)) []api.Num {
	l := make([]api.Num, len(a))
	for i := range a {
		l[i] = calc(f(a[i], b[i]))
	}
	return l
}

// P3.10: outputs of filters that are composed.
func TestComposedOutputs(t *testing.T) {
	r := rand.New(rand.NewSource(12))
	for range 300 {
		f, g := simpleFilter(r), simpleFilter(r)
		x := simpleSamples(r, 6)
		run := must[[]api.Num](t)
		one, two := run(Run(f, x)), run(Run(g, x))
		serial, e := Run(must[api.Filter](t)(Series(f, g)), x)
		isList(t, "a series", serial, e, run(Run(g, one)))
		back := run(Run(must[api.Filter](t)(Series(g, f)), x))
		isList(t, "a series", serial, e, back)
		both, e := Run(must[api.Filter](t)(Parallel(f, g)), x)
		isList(t, "parallel filters", both, e, withEach(one, two, num.Add))
		double, e := Run(must[api.Filter](t)(Scaled(f, "-3/2")), x)
		isList(t, "a scaled filter", double, e, mapped(one, func(a api.Num) api.Num { return calc(num.Mul(a, "-3/2")) }))
		n := r.Intn(5)
		late, e := Run(must[api.Filter](t)(Delayed(f, n)), x)
		isList(t, "a delayed filter", late, e, slices.Concat(slices.Repeat(list("0"), n), one)[:len(x)])
	}
}

// P3.10: outputs are linear.
func TestOutputsAreLinear(t *testing.T) {
	r := rand.New(rand.NewSource(13))
	for range 200 {
		f := randomFilter(r, 7)
		n := r.Intn(12)
		x, y := simpleSamples(r, n), simpleSamples(r, n)
		sum := withEach(x, y, func(a, b api.Num) (api.Num, api.Errno) { return num.Add(calc(num.Mul(a, "2/3")), b) })
		run := must[[]api.Num](t)
		want := withEach(run(Run(f, x)), run(Run(f, y)), func(a, b api.Num) (api.Num, api.Errno) { return num.Add(calc(num.Mul(a, "2/3")), b) })
		got, e := Run(f, sum)
		isList(t, "Run of a sum", got, e, want)
	}
}

// P3.10: transfers of filters that are composed.
func TestComposedTransfers(t *testing.T) {
	r := rand.New(rand.NewSource(14))
	poles := 0
	for range 500 {
		f, g := simpleFilter(r), simpleFilter(r)
		z := pick[api.Num](r, "1", "-1", "2", "i", "-1/2", "3/5+4/5i", "1-2i", "1/3", "1/2")
		a, aError := Transfer(f, z)
		b, bError := Transfer(g, z)
		serial, e := Transfer(must[api.Filter](t)(Series(f, g)), z)
		both, e2 := Transfer(must[api.Filter](t)(Parallel(f, g)), z)
		if aError != api.OK || bError != api.OK {
			poles++
			is(t, "a series", serial, e, "", api.ErrPole)
			is(t, "parallel filters", both, e2, "", api.ErrPole)
			continue
		}
		is(t, "a series", serial, e, calc(num.Mul(a, b)), api.OK)
		is(t, "parallel filters", both, e2, calc(num.Add(a, b)), api.OK)
	}
	if poles < 20 {
		t.Errorf("only %d poles", poles)
	}
}

// P3.11: what goes around in closed loops.
func TestClosedLoops(t *testing.T) {
	r := rand.New(rand.NewSource(15))
	loops := 0
	for range 500 {
		f := randomFilter(r, 5)
		closed, e := Closed(f)
		if e != api.OK {
			continue
		}
		x := simpleSamples(r, 8)
		y := must[[]api.Num](t)(Run(closed, x))
		inside := withEach(x, y, num.Sub)
		if want := texts(modelRun(f, rats(inside))); !slices.Equal(y, want) {
			t.Fatalf("%v: %v, not %v", f, y, want)
		}
		left, e := Left(f)
		if e != api.OK {
			continue
		}
		loops++
		l, e := Run(left, x)
		isList(t, "what is left", l, e, inside)
	}
	if loops < 100 {
		t.Errorf("only %d loops", loops)
	}
}

// P3.12: each proof proves, and the response has never more than the energy.
func TestProofsAndEnergies(t *testing.T) {
	r := rand.New(rand.NewSource(16))
	built := 0
	for range 500 {
		var proof []api.Num
		for range r.Intn(5) {
			proof = append(proof, calc(num.Of(r.Intn(5)-2, 3)))
		}
		f, e := asFilter(rats(randomSide(r, r.Intn(3)+1)), modelBuilt(rats(proof)))
		if e != api.OK {
			continue
		}
		built++
		yes, e := Proves(f, proof)
		is(t, "Proves", yes, e, true, api.OK)
		yes, e = Stable(f)
		is(t, "Stable", yes, e, true, api.OK)
		l, e := Prove(f)
		isList(t, "Prove", l, e, proof)
	}
	if built < 200 {
		t.Errorf("only %d proofs", built)
	}
	for range 100 {
		f := randomStable(r)
		energy, e := Energy(f)
		if e != api.OK {
			t.Fatalf("Energy of %v: %d", f, e)
		}
		total := new(big.Rat)
		for _, y := range must[[]api.Num](t)(Response(f, 64)) {
			total = ratAdd(total, ratMul(rat(y), rat(y)))
			if total.Cmp(rat(energy)) > 0 {
				t.Fatalf("Energy of %v: %s, but there is %v", f, energy, total)
			}
		}
		if least, _ := Radius(f); least < 50 {
			if rest, _ := ratSub(rat(energy), total).Float64(); rest > 1e-3*(1+mustFloat(energy)) {
				t.Errorf("Energy of %v: %s, of which %f is left", f, energy, rest)
			}
		}
	}
}

func mustFloat(a api.Num) float64 {
	x, _ := rat(a).Float64()
	return x
}

// P3.13: radiuses, and filters whose zeros are moved out.
func TestRadiusLaws(t *testing.T) {
	r := rand.New(rand.NewSource(17))
	many := map[bool]int{}
	for range 500 {
		f := randomStable(r)
		radius := pick[api.Num](r, "1", "1/2", "1/3", "2/3", "3/4")
		moved := rats(f.Out)
		factor := big.NewRat(1, 1)
		for k := range moved {
			moved[k] = ratDiv(moved[k], factor)
			factor = ratMul(factor, rat(radius))
		}
		within := must[bool](t)(Within(f, radius))
		if g, e := asFilter(rats(list("1")), moved); e == api.OK {
			many[within]++
			stable, e := Stable(g)
			is(t, "Stable of a moved filter", stable, e, within, api.OK)
		}
		n := must[int](t)(Radius(f))
		if n < 1 || n > api.MaxRadius {
			t.Fatalf("Radius of %v: %d", f.Out, n)
		}
		within, e := Within(f, calc(num.Of(n, api.MaxRadius)))
		is(t, "Within the radius", within, e, true, api.OK)
		if n > 1 {
			within, e = Within(f, calc(num.Of(n-1, api.MaxRadius)))
			is(t, "Within less than the radius", within, e, false, api.OK)
		}
	}
	if many[true] < 50 || many[false] < 50 {
		t.Errorf("%v", many)
	}
}

// P3.14: certain loops hold for all gains between.
func TestCertainLoopsHold(t *testing.T) {
	r := rand.New(rand.NewSource(18))
	many := map[bool]int{}
	for range 300 {
		f := randomLoop(r)
		ends := randomRats(r, 2)
		slices.SortFunc(ends, (*big.Rat).Cmp)
		gains := texts(ends)
		for range 10 {
			share := big.NewRat(int64(r.Intn(17)), 16)
			k := ratAdd(ends[0], ratMul(share, ratSub(ends[1], ends[0])))
			if isShortRat(k) {
				gains = append(gains, text(k))
			}
		}
		certain := must[bool](t)(Certain(f, gains[0], gains[1]))
		many[certain]++
		holds := must[[]bool](t)(Holds(f, gains))
		if certain && slices.Contains(holds, false) {
			t.Fatalf("%v is certain from %s to %s: %v, %v", f, gains[0], gains[1], gains, holds)
		}
		if closed, e := Closed(f); e == api.OK {
			stable := must[bool](t)(Stable(closed))
			is(t, "the gain 1", must[[]bool](t)(Holds(f, list("1")))[0], api.OK, stable, api.OK)
		}
	}
	if many[true] < 50 || many[false] < 50 {
		t.Errorf("%v", many)
	}
}
