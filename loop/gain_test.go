package loop

import (
	"math"
	"math/big"
	"math/rand"
	"slices"
	"testing"

	"ringdown/api"
	"ringdown/num"
)

// onlyOne has a loop with each gain but -1, and no zeros but 0.
func onlyOne() api.Filter { return filterOf(list("1", "0", "0"), list("1", "0", "0")) }

// P3.6: gains that hold.
func TestHolds(t *testing.T) {
	for _, x := range []struct {
		f     api.Filter
		gains []api.Num
		want  []bool
	}{
		{example(), list("-1", "-2/3", "-1/2", "0", "1", "2", "4094/1365", "3", "4"), []bool{false, true, true, true, true, true, true, false, false}},
		{example(), list("4", "0", "4", "-1"), []bool{false, true, false, false}},
		{onlyOne(), list("-2", "-1", "0", "4096"), []bool{true, false, true, true}},
		{allPole("1"), list("-4096", "-1", "-4095/4096", "1"), []bool{true, false, true, true}},
		{allPole("1", "-2"), list("0", "1", "2", "-3", "-4"), []bool{false, false, true, false, true}},
		{filterOf(list("0", "0", "1"), list("1")), list("-1", "-1/2", "1/2", "1"), []bool{false, true, true, false}},
		{filterOf(list("0", "0"), list("1", "1/2")), list("4096", "-4096"), []bool{true, true}},
		{filterOf(list("0", "0", "0"), list("1", "-2")), list("4096", "-4096"), []bool{false, false}},
		{example(), nil, nil},
	} {
		got, e := Holds(x.f, x.gains)
		if !slices.Equal(got, x.want) || e != api.OK {
			t.Errorf("Holds of %v: %v, %d, not %v", x.f, got, e, x.want)
		}
	}
}

// P3.6: any loops, against approximated zeros.
func TestHoldsOfAnyLoop(t *testing.T) {
	r := rand.New(rand.NewSource(8))
	many := map[bool]int{}
	for range 300 {
		f := randomLoop(r)
		gains := randomRats(r, 4)
		got, e := Holds(f, texts(gains))
		if len(got) != 4 || e != api.OK {
			t.Fatalf("Holds of %v: %v, %d", f, got, e)
		}
		for i, k := range gains {
			sum := around(f, k)
			want := sum[0].Sign() != 0
			if want {
				greatest := greatestZero(sum)
				if math.Abs(greatest-1) < 1e-2 || math.IsNaN(greatest) {
					continue
				}
				want = greatest < 1
			}
			many[want]++
			if got[i] != want {
				t.Fatalf("%v with the gain %v: %v", f, k, got[i])
			}
		}
	}
	if many[true] < 100 || many[false] < 100 {
		t.Errorf("%v", many)
	}
}

// randomLoop is stable with the gain 0 more often than not.
func randomLoop(r *rand.Rand) api.Filter {
	if r.Intn(4) == 0 {
		return randomFilter(r, 7)
	}
	f := randomStable(r)
	if r.Intn(2) == 0 {
		f.In[0] = "0"
	}
	return f
}

// P3.6, P3.7: errors, and their order.
func TestGainErrors(t *testing.T) {
	many, wrong := slices.Repeat(list("x"), 33), list("", "x", "i", "1+i", "4097", "-1/4097", "2/4")
	holds, e := Holds(example(), many)
	if len(holds) != 0 || e != api.ErrLimit {
		t.Errorf("Holds: %v, %d", holds, e)
	}
	margin, e := Window(allPole("1", "-2"), many, -1)
	is(t, "Window", margin, e, api.Margin{}, api.ErrLimit)
	holds, e = Holds(example(), slices.Repeat(list("1"), 32))
	if len(holds) != 32 || e != api.OK {
		t.Errorf("Holds: %v, %d", holds, e)
	}
	for _, k := range wrong {
		holds, e = Holds(example(), list("2", "1", k))
		if len(holds) != 0 || e != api.ErrArg {
			t.Errorf("Holds: %v, %d", holds, e)
		}
		margin, e = Window(allPole("1", "-2"), list("1", k), 0)
		is(t, "Window", margin, e, api.Margin{}, api.ErrArg)
		for _, ends := range [][2]api.Num{{k, "1"}, {"1", k}, {"4096", k}, {k, "-4096"}, {k, k}} {
			certain, e := Certain(example(), ends[0], ends[1])
			is(t, "Certain", certain, e, false, api.ErrArg)
		}
	}
	for _, ends := range [][2]api.Num{{"1", "0"}, {"1/2", "1/3"}, {"-1", "-2"}, {"1/4095", "1/4096"}} {
		for _, f := range []api.Filter{example(), allPole("1", "-2")} {
			certain, e := Certain(f, ends[0], ends[1])
			is(t, "Certain", certain, e, false, api.ErrRange)
		}
	}
	for _, x := range []struct {
		gains []api.Num
		at    int
	}{
		{nil, 0}, {nil, -1}, {list("0"), 1}, {list("0"), -1}, {list("0", "1"), 2}, {list("0", "1"), 1 << 62}, {list("0", "1"), -1 << 63},
		{list("1", "0"), 0}, {list("0", "0"), 0}, {list("0", "1", "1"), 0}, {list("0", "1/3", "1/4"), 1}, {list("4", "3"), 0}, {list("4", "3"), 2},
	} {
		margin, e = Window(example(), x.gains, x.at)
		is(t, "Window", margin, e, api.Margin{}, api.ErrArg)
		margin, e = Window(allPole("1", "1"), x.gains, x.at)
		is(t, "Window", margin, e, api.Margin{}, api.ErrArg)
	}
	for at, e := range []api.Errno{api.ErrUnstable, api.OK, api.ErrUnstable} {
		_, got := Window(example(), list("-1", "0", "3"), at)
		if got != e {
			t.Errorf("Window at %d: %d, not %d", at, got, e)
		}
	}
	margin, e = Window(onlyOne(), list("-1"), 0)
	is(t, "Window without a loop", margin, e, api.Margin{}, api.ErrUnstable)
}

// P3.6: loops that are certain, up to the edges.
func TestCertain(t *testing.T) {
	quadratic := filterOf(list("0", "0", "0", "1"), list("1", "0", "1/2", "0"))
	for _, x := range []struct {
		f    api.Filter
		a, b api.Num
		want bool
	}{
		{example(), "-1/2", "2", true}, {example(), "0", "3", false}, {example(), "-1", "0", false}, {example(), "-4095/4096", "4095/4096", true}, {example(), "-4095/4096", "4094/1365", true}, {example(), "4", "5", false}, {example(), "3", "3", false}, {example(), "2", "2", true}, {example(), "-1", "-1", false}, {example(), "-1", "4", false},
		// All gains but one.
		{onlyOne(), "-2", "0", false}, {onlyOne(), "-4096", "-4096/4095", true}, {onlyOne(), "-4095/4096", "4096", true}, {onlyOne(), "-2", "-1", false}, {onlyOne(), "-1", "0", false}, {onlyOne(), "-1", "-1", false}, {onlyOne(), "-2", "-2", true},
		{filterOf(list("2/3"), list("1")), "-4096", "-2", true}, {filterOf(list("2/3"), list("1")), "-2", "-1", false}, {filterOf(list("2/3"), list("1")), "-3/2", "0", false}, {filterOf(list("2/3"), list("1")), "-4095/2731", "0", true}, {filterOf(list("2/3"), list("1", "0")), "-2", "0", false}, {filterOf(list("0"), list("1")), "-4096", "4096", true},
		// In has no part in it.
		{filterOf(list("0", "0", "0"), list("1", "-1/2")), "-4096", "4096", true}, {filterOf(list("0"), list("1", "-1")), "-4096", "4096", false}, {filterOf(list("0", "1/2"), list("1")), "-4095/2048", "4095/2048", true}, {filterOf(list("0", "1/2"), list("1")), "-1", "2", false},
		// The edges are the square root of 1/2, which is no number: 1393/1970 is less, 985/1393 is greater.
		{quadratic, "-1393/1970", "1393/1970", true}, {quadratic, "0", "985/1393", false}, {quadratic, "-985/1393", "0", false}, {quadratic, "-4096", "4096", false},
		// Zeros that meet on the axis and turn aside.
		{filterOf(list("0", "0", "1"), list("1", "0", "-1/4")), "-3/4", "1/4", false}, {filterOf(list("0", "0", "1"), list("1", "0", "-1/4")), "-2999/4000", "1249/1000", true}, {filterOf(list("0", "0", "1"), list("1", "0", "-1/4")), "0", "5/4", false},
	} {
		certain, e := Certain(x.f, x.a, x.b)
		is(t, "Certain of "+joined(x.f.In)+"/ "+joined(x.f.Out)+"from "+string(x.a)+" to "+string(x.b), certain, e, x.want, api.OK)
	}
}

// P3.6, P3.7: gains between which no loop is stable, while it is at both ends.
func TestTwoWindows(t *testing.T) {
	r := rand.New(rand.NewSource(9))
	found := 0
	for range 3000 {
		f := randomLoop(r)
		gains := list("-2", "-3/2", "-1", "-1/2", "0", "1/2", "1", "3/2", "2")
		holds := must[[]bool](t)(Holds(f, gains))
		low := slices.Index(holds, true)
		if low < 0 {
			continue
		}
		gap := slices.Index(holds[low:], false)
		if gap < 0 || !slices.Contains(holds[low+gap:], true) {
			continue
		}
		high := low + gap + slices.Index(holds[low+gap:], true)
		found++
		certain, e := Certain(f, gains[low], gains[high])
		is(t, "Certain", certain, e, false, api.OK)
		ends := list(gains[low], gains[high])
		for i, k := range ends {
			margin, e := Window(f, ends, i)
			is(t, "Window", margin, e, api.Margin{Low: k, High: k}, api.OK)
		}
	}
	if found < 10 {
		t.Errorf("only %d loops have two windows", found)
	}
}

// modelCertain counts the gains with which the product of two zeros is 1; the zeros cannot leave the circle without that.
func modelCertain(t *testing.T, f api.Filter, a, b api.Num) bool {
	t.Helper()
	if !must[[]bool](t)(Holds(f, list(a)))[0] {
		return false
	}
	if len(f.In) == 1 && len(f.Out) == 1 {
		in := rat(f.In[0])
		if in.Sign() == 0 {
			return true
		}
		edge := ratDiv(big.NewRat(-1, 1), in)
		return edge.Cmp(rat(a)) < 0 || edge.Cmp(rat(b)) > 0
	}
	return calc(num.Count(reciprocals(f), a, b)) == 0
}

// P3.6, P3.7: any loops, against another way to find the edges.
func TestCertainOfAnyLoop(t *testing.T) {
	r := rand.New(rand.NewSource(10))
	many := map[bool]int{}
	for range 150 {
		f := randomLoop(r)
		gains := randomRats(r, 5)
		slices.SortFunc(gains, (*big.Rat).Cmp)
		gains = slices.CompactFunc(gains, func(a, b *big.Rat) bool { return a.Cmp(b) == 0 })
		ks := texts(gains)
		holds := must[[]bool](t)(Holds(f, ks))
		for i, a := range ks {
			low, high := i, i
			for j, b := range ks {
				lower, upper := min(i, j), max(i, j)
				want := modelCertain(t, f, ks[lower], ks[upper])
				if j >= i {
					many[want]++
					certain, e := Certain(f, a, b)
					is(t, "Certain of "+joined(f.In)+"/ "+joined(f.Out)+"from "+string(a)+" to "+string(b), certain, e, want, api.OK)
				}
				if want {
					low, high = min(low, j), max(high, j)
				}
			}
			margin, e := Window(f, ks, i)
			if !holds[i] {
				is(t, "Window", margin, e, api.Margin{}, api.ErrUnstable)
				continue
			}
			is(t, "Window of "+joined(f.In)+"/ "+joined(f.Out)+"at "+string(a), margin, e, api.Margin{Low: ks[low], High: ks[high]}, api.OK)
		}
	}
	if many[true] < 200 || many[false] < 200 {
		t.Errorf("%v", many)
	}
}

// P3.7: windows.
func TestWindow(t *testing.T) {
	for _, x := range []struct {
		f     api.Filter
		gains []api.Num
		at    int
		want  api.Margin
	}{
		{example(), list("-2", "-1", "0", "1", "2", "3"), 3, api.Margin{Low: "0", High: "2"}},
		{example(), list("0"), 0, api.Margin{Low: "0", High: "0"}},
		{example(), list("0", "4"), 0, api.Margin{Low: "0", High: "0"}},
		{example(), list("-4", "0"), 1, api.Margin{Low: "0", High: "0"}},
		{example(), list("-1/2", "0", "5/2"), 0, api.Margin{Low: "-1/2", High: "5/2"}},
		{example(), list("-1/2", "0", "5/2"), 2, api.Margin{Low: "-1/2", High: "5/2"}},
		{onlyOne(), list("-4096", "-3", "-2", "0", "4096"), 1, api.Margin{Low: "-4096", High: "-2"}},
		{onlyOne(), list("-4096", "-3", "-2", "0", "4096"), 4, api.Margin{Low: "0", High: "4096"}},
		{onlyOne(), list("-4096", "-1", "0"), 0, api.Margin{Low: "-4096", High: "-4096"}},
		{filterOf(list("0"), list("1")), list("-4096", "0", "4096"), 0, api.Margin{Low: "-4096", High: "4096"}},
	} {
		margin, e := Window(x.f, x.gains, x.at)
		is(t, "Window", margin, e, x.want, api.OK)
	}
	var all []api.Num
	for k := range 32 {
		all = append(all, calc(num.Of(k-16, 8)))
	}
	margin, e := Window(example(), all, 31)
	is(t, "Window of 32", margin, e, api.Margin{Low: "-7/8", High: "15/8"}, api.OK)
}

// P3.8: delays.
func TestDelays(t *testing.T) {
	for _, x := range []struct {
		f    api.Filter
		want int
		e    api.Errno
	}{
		{example(), 5, api.OK}, {filterOf(list("1/2"), list("1")), 6, api.OK}, {filterOf(list("0", "0", "0", "0", "0", "0", "1/2"), list("1")), 0, api.OK}, {filterOf(list("0", "0", "0", "0", "0", "1/2"), list("1")), 1, api.OK},
		{filterOf(list("2"), list("1")), 0, api.OK}, {filterOf(list("1"), list("1")), 0, api.OK}, {filterOf(list("0"), list("1")), 6, api.OK}, {filterOf(list("-2"), list("1")), 0, api.OK},
		{filterOf(list("0", "2"), list("1", "-3/2")), 0, api.OK}, {filterOf(list("0", "1/2"), list("1", "-1")), 2, api.OK}, {filterOf(list("0", "1/4"), list("1", "-1")), 5, api.OK},
		{filterOf(list("-1"), list("1")), 0, api.ErrUnstable}, {filterOf(list("0", "1"), list("1")), 0, api.ErrUnstable}, {filterOf(list("0", "0", "0"), list("1", "1")), 0, api.ErrUnstable}, {filterOf(list("1/2"), list("1", "-2")), 0, api.ErrUnstable},
	} {
		n, e := Delays(x.f)
		is(t, "Delays of "+joined(x.f.In)+"/ "+joined(x.f.Out), n, e, x.want, x.e)
	}
}

// P3.8: each delay is looked at, not only the last one.
func TestDelaysOfAnyLoop(t *testing.T) {
	r := rand.New(rand.NewSource(11))
	many := map[int]int{}
	gaps := 0
	for range 1500 {
		f := randomLoop(r)
		want, wantError, isGap := -1, api.OK, false
		for k := 0; len(f.In)+k <= 7; k++ {
			delayed := filterOf(slices.Concat(slices.Repeat(list("0"), k), f.In), f.Out)
			holds := must[[]bool](t)(Holds(delayed, list("1")))[0]
			if holds && want == k-1 {
				want = k
			} else if holds {
				isGap = true
			}
		}
		if isGap {
			gaps++
		}
		if want < 0 {
			want, wantError = 0, api.ErrUnstable
		} else {
			many[want]++
		}
		n, e := Delays(f)
		is(t, "Delays of "+joined(f.In)+"/ "+joined(f.Out), n, e, want, wantError)
	}
	for n := range 7 {
		if many[n] < 5 {
			t.Errorf("%d loops may be delayed by %d", many[n], n)
		}
	}
	if gaps < 5 {
		t.Errorf("%d loops are stable again with greater delays", gaps)
	}
}

// P3.6, P3.7, P3.8: the longest numbers.
func TestLongestLoop(t *testing.T) {
	f := longest()
	f.In[0] = "0"
	ks := list("-1/4095", "-1/4096", "0", "1/4095", "1/4093", "1/16", "4093/4095")
	holds := must[[]bool](t)(Holds(f, ks))
	if !holds[2] {
		t.Fatal(holds)
	}
	for i, a := range ks {
		for _, b := range ks[i:] {
			certain, e := Certain(f, a, b)
			is(t, "Certain from "+string(a)+" to "+string(b), certain, e, modelCertain(t, f, a, b), api.OK)
		}
	}
	var all []api.Num
	for k := range 32 {
		all = append(all, calc(num.Of(4*k-64+k%2, 4093)))
	}
	margin, e := Window(f, all, 16)
	if e != api.OK || margin.Low == "" || margin.High == "" {
		t.Errorf("Window: %v, %d", margin, e)
	}
}
