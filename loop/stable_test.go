package loop

import (
	"math/big"
	"math/rand"
	"slices"
	"strings"
	"testing"

	"ringdown/api"
	"ringdown/num"
)

// P3.4: filters that are stable, with their proofs.
func TestStable(t *testing.T) {
	for _, x := range []struct {
		f      api.Filter
		stable bool
		proof  []api.Num
	}{
		{example(), true, list("-1/2")}, {allPole("1", "-2"), false, nil}, {allPole("1"), true, nil},
		{allPole("1", "0"), true, list("0")}, {allPole("1", "0", "0", "0", "0", "0", "0"), true, list("0", "0", "0", "0", "0", "0")},
		{allPole("1", "1/4", "-1/2"), true, list("1/2", "-1/2")}, {allPole("1", "1/2", "0"), true, list("1/2", "0")},
		{allPole("1", "1"), false, nil}, {allPole("1", "-1"), false, nil}, {allPole("1", "4095/4096"), true, list("4095/4096")}, {allPole("1", "-4095/4096"), true, list("-4095/4096")},
		{allPole("1", "0", "1"), false, nil}, {allPole("1", "0", "-1"), false, nil}, {allPole("1", "-6/5", "1"), false, nil}, {allPole("1", "-1", "1/2"), true, list("-2/3", "1/2")},
		{allPole("1", "-3/2", "1/2"), false, nil}, {allPole("1", "3/2", "1/2"), false, nil}, {allPole("1", "1", "1", "1"), false, nil}, {allPole("1", "-5/2", "1"), false, nil},
		// Zeros that In has as well count.
		{filterOf(list("1", "-2"), list("1", "-2")), false, nil}, {filterOf(list("0"), list("1", "1")), false, nil},
		{filterOf(list("4096", "0", "4096"), list("1", "-1/2")), true, list("-1/2")},
	} {
		stable, e := Stable(x.f)
		is(t, "Stable", stable, e, x.stable, api.OK)
		proof, e := Prove(x.f)
		if !x.stable {
			noList(t, "Prove", proof, e, api.ErrUnstable)
			continue
		}
		isList(t, "Prove", proof, e, x.proof)
		proves, e := Proves(x.f, x.proof)
		is(t, "Proves", proves, e, true, api.OK)
	}
}

// modelBuilt builds a polynomial from a proof, as the chapter says.
func modelBuilt(proof []*big.Rat) []*big.Rat {
	p := rats(list("1"))
	for j := 1; j <= len(proof); j++ {
		k := proof[j-1]
		next := make([]*big.Rat, j+1)
		for i := range next {
			next[i] = ratAdd(at(p, i), ratMul(k, at(p, j-i)))
		}
		p = next
	}
	return p
}

// P3.4: filters with known zeros, inside, on and outside of the circles.
func TestKnownZeros(t *testing.T) {
	r := rand.New(rand.NewSource(4))
	stables := 0
	for range 600 {
		out, square := randomOut(r, pick(r, stableFactors, len(factors)))
		f := filterOf(randomSide(r, r.Intn(7)+1), out)
		isStable := square.Cmp(big.NewRat(1, 1)) < 0
		stable, e := Stable(f)
		is(t, "Stable of "+joined(out), stable, e, isStable, api.OK)
		for _, radius := range list("1", "1/2", "3/4", "4095/4096", "7/8", "1/3", "1/4096", "63/64", "9/10", "2/3") {
			within, e := Within(f, radius)
			is(t, "Within "+string(radius)+" of "+joined(out), within, e, square.Cmp(ratMul(rat(radius), rat(radius))) < 0, api.OK)
		}
		proof, e := Prove(f)
		least, radiusError := Radius(f)
		if !isStable {
			noList(t, "Prove of "+joined(out), proof, e, api.ErrUnstable)
			is(t, "Radius of "+joined(out), least, radiusError, 0, api.ErrUnstable)
			continue
		}
		stables++
		if built := texts(modelBuilt(rats(proof))); !slices.Equal(built, out) || e != api.OK {
			t.Fatalf("Prove of %v: %v, %d, builds %v", out, proof, e, built)
		}
		want := 1
		for square.Cmp(big.NewRat(int64(want*want), 4096)) >= 0 {
			want++
		}
		is(t, "Radius of "+joined(out), least, radiusError, want, api.OK)
	}
	if stables < 100 || stables > 500 {
		t.Errorf("%d filters are stable", stables)
	}
}

func joined(l []api.Num) string {
	var text strings.Builder
	for _, a := range l {
		text.WriteString(string(a) + " ")
	}
	return text.String()
}

// P3.4: any filters, against approximated zeros.
func TestStableOfAnyFilter(t *testing.T) {
	r := rand.New(rand.NewSource(5))
	stables := 0
	for range 400 {
		f := randomFilter(r, 7)
		if r.Intn(2) == 0 {
			for k := 1; k < len(f.Out); k++ {
				f.Out[k] = text(big.NewRat(int64(r.Intn(13)-6), int64(r.Intn(9)+6)))
			}
		}
		greatest := greatestZero(rats(f.Out))
		if greatest > 1-1e-3 && greatest < 1+1e-3 {
			continue
		}
		stable, e := Stable(f)
		is(t, "Stable of "+joined(f.Out), stable, e, greatest < 1, api.OK)
		if stable {
			stables++
			n := must[int](t)(Radius(f))
			if edge := greatest * 64; float64(n)+0.01 < edge || float64(n)-1.01 > edge && n > 1 {
				t.Errorf("Radius of %v: %d, not %f", f.Out, n, edge)
			}
		}
	}
	if stables < 50 {
		t.Errorf("only %d filters are stable", stables)
	}
}

// P3.4: lists that prove nothing.
func TestProvesNot(t *testing.T) {
	long := api.Num("1/1" + strings.Repeat("0", 1998) + "1")
	f := allPole("1", "1/4", "-1/2")
	for _, proof := range [][]api.Num{
		nil, list("-1/2"), list("-1/2", "1/2"), list("1/2", "-1/2", "0"), list("1/2", "1/2"), list("1/2", "-1/3"), list("1/3", "-1/2"),
		list("1/2", ""), list("", "-1/2"), list("1/2", "x"), list("1/2", "-2/4"), list("2/4", "-1/2"), list("1/2", "-1/2i"), list("i", "-1/2"), list("1/2+i", "-1/2"), list("1/2", "1"), list("1/2", "-1"), list("2", "-1/2"),
		list(long, "-1/2"), list("1/2", long), list(long, long), list("1/2", long+"0"), slices.Repeat(list("1/2"), 100000),
	} {
		proves, e := Proves(f, proof)
		is(t, "Proves", proves, e, false, api.OK)
	}
	proves, e := Proves(f, list("1/2", "-1/2"))
	is(t, "Proves", proves, e, true, api.OK)
	six := allPole("1", "0", "0", "0", "0", "0", "0")
	proves, e = Proves(six, slices.Repeat(list(long), 6))
	is(t, "Proves with long numbers", proves, e, false, api.OK)
	proves, e = Proves(six, slices.Repeat(list("0"), 5))
	is(t, "Proves with one too few", proves, e, false, api.OK)
	// What these build is Out, but they have elements that a proof has not.
	for _, x := range []struct {
		out   []api.Num
		proof []api.Num
	}{{list("1", "-2"), list("-2")}, {list("1", "1"), list("1")}, {list("1", "-1"), list("-1")}, {list("1", "3/2", "1/2"), list("1", "1/2")}, {list("1", "0", "1"), list("0", "1")}, {list("1", "6", "2"), list("2", "2")}, {list("1", "1", "1"), list("1/2", "1")}} {
		if built := texts(modelBuilt(rats(x.proof))); !slices.Equal(built, x.out) {
			t.Fatalf("%v builds %v", x.proof, built)
		}
		proves, e = Proves(allPole(x.out...), x.proof)
		is(t, "Proves "+joined(x.out), proves, e, false, api.OK)
	}
}

// P3.4: a proof with any element changed is none.
func TestProvesOneAlone(t *testing.T) {
	r := rand.New(rand.NewSource(6))
	for range 200 {
		f := randomStable(r)
		proof := must[[]api.Num](t)(Prove(f))
		proves, e := Proves(f, proof)
		is(t, "Proves "+joined(f.Out), proves, e, true, api.OK)
		for i := range proof {
			other := slices.Clone(proof)
			other[i] = calc(num.Div(calc(num.Add(proof[i], "1/3")), "2"))
			if other[i] != proof[i] {
				proves, e = Proves(f, other)
				is(t, "Proves "+joined(f.Out), proves, e, false, api.OK)
			}
		}
	}
}

// P3.4: what is no radius.
func TestWithinErrors(t *testing.T) {
	for _, f := range []api.Filter{example(), allPole("1", "-2"), allPole("1")} {
		for _, radius := range list("", "x", "i", "1/2+i", "0", "-1/2", "-1", "2", "4096/4095", "1/4097", "4096", "2/2", "4095/4097") {
			within, e := Within(f, radius)
			is(t, "Within "+string(radius), within, e, false, api.ErrRange)
		}
	}
}

// P3.4: circles that zeros are on, or just inside of.
func TestRadiusEdges(t *testing.T) {
	for _, x := range []struct {
		out    []api.Num
		radius api.Num
		want   bool
	}{
		{list("1", "-1/2"), "1/2", false}, {list("1", "-1/2"), "2049/4096", true}, {list("1", "-1/2"), "2047/4095", false}, {list("1", "-1/2"), "2048/4095", true}, {list("1", "-1/2"), "1", true},
		{list("1", "1"), "1", false}, {list("1", "-2"), "1", false}, {list("1"), "1/4096", true}, {list("1", "0", "0"), "1/4096", true}, {list("1", "0", "1/4096"), "1/64", false}, {list("1", "0", "1/4096"), "1/63", true},
	} {
		within, e := Within(allPole(x.out...), x.radius)
		is(t, "Within "+string(x.radius)+" of "+joined(x.out), within, e, x.want, api.OK)
	}
	for _, x := range []struct {
		out  []api.Num
		want int
	}{
		{example().Out, 33}, {list("1"), 1}, {list("1", "0"), 1}, {list("1", "1/4096"), 1}, {list("1", "1/64"), 2}, {list("1", "-1/32"), 3}, {list("1", "31/32"), 63}, {list("1", "63/64"), 64}, {list("1", "4095/4096"), 64}, {list("1", "0", "1/4"), 33},
	} {
		n, e := Radius(allPole(x.out...))
		is(t, "Radius of "+joined(x.out), n, e, x.want, api.OK)
	}
	for _, out := range [][]api.Num{list("1", "1"), list("1", "-2"), list("1", "0", "-1")} {
		n, e := Radius(allPole(out...))
		is(t, "Radius of "+joined(out), n, e, 0, api.ErrUnstable)
	}
}

// modelEnergy solves equations for the sums of products of numbers of the response that are some places apart.
func modelEnergy(f api.Filter) api.Num {
	n := max(len(f.In), len(f.Out))
	in, out := rats(f.In), rats(f.Out)
	one := rats(slices.Concat(list("1"), slices.Repeat(list("0"), n)))
	response := modelRun(f, one)
	var rows [][]api.Num
	var totals []api.Num
	for k := range n {
		row := rats(slices.Repeat(list("0"), n))
		for j := range n {
			apart := max(k-j, j-k)
			row[apart] = ratAdd(row[apart], at(out, j))
		}
		total := new(big.Rat)
		for j := k; j < n; j++ {
			total = ratAdd(total, ratMul(at(in, j), response[j-k]))
		}
		rows = append(rows, texts(row))
		totals = append(totals, text(total))
	}
	return calc(num.Solve(rows, totals))[0]
}

// P3.5: energies.
func TestEnergy(t *testing.T) {
	for _, x := range []struct {
		f    api.Filter
		want api.Num
		e    api.Errno
	}{
		{example(), "1/3", api.OK}, {allPole("1"), "1", api.OK}, {filterOf(list("3", "-4", "1/2"), list("1")), "101/4", api.OK}, {filterOf(list("0"), list("1", "1/2")), "0", api.OK}, {filterOf(list("0", "0", "0"), list("1")), "0", api.OK},
		{allPole("1", "1/2"), "4/3", api.OK}, {allPole("1", "0", "-1/2"), "4/3", api.OK}, {filterOf(list("1", "-1/2"), list("1", "-1/2")), "1", api.OK}, {filterOf(list("1", "0", "0", "1"), list("1", "-1/2")), "3", api.OK},
		{allPole("1", "-2"), "", api.ErrUnstable}, {allPole("1", "1"), "", api.ErrUnstable}, {filterOf(list("1", "-2"), list("1", "-2")), "", api.ErrUnstable}, {filterOf(list("0"), list("1", "-2")), "", api.ErrUnstable},
	} {
		energy, e := Energy(x.f)
		is(t, "Energy", energy, e, x.want, x.e)
	}
	r := rand.New(rand.NewSource(7))
	for range 300 {
		f := randomStable(r)
		energy, e := Energy(f)
		is(t, "Energy of "+joined(f.In)+"/ "+joined(f.Out), energy, e, modelEnergy(f), api.OK)
	}
}

// P3.4, P3.5: the longest numbers.
func TestLongest(t *testing.T) {
	f := longest()
	stable, e := Stable(f)
	if greatest := greatestZero(rats(f.Out)); greatest > 0.99 || !stable || e != api.OK {
		t.Fatalf("Stable: %v, %d; the greatest zero is %f", stable, e, greatest)
	}
	proof := must[[]api.Num](t)(Prove(f))
	if built := texts(modelBuilt(rats(proof))); !slices.Equal(built, f.Out) {
		t.Errorf("Prove: %v", built)
	}
	proves, e := Proves(f, proof)
	is(t, "Proves", proves, e, true, api.OK)
	energy, e := Energy(f)
	is(t, "Energy", energy, e, modelEnergy(f), api.OK)
	n := must[int](t)(Radius(f))
	if edge := greatestZero(rats(f.Out)) * 64; float64(n) < edge || float64(n-1) > edge {
		t.Errorf("Radius: %d, not %f", n, edge)
	}
	for _, radius := range list("1/4096", "4093/4096", "4091/4093", "3001/4001") {
		within, e := Within(f, radius)
		edge, _ := rat(radius).Float64()
		is(t, "Within", within, e, greatestZero(rats(f.Out)) < edge, api.OK)
	}
}
