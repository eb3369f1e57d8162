package num

import (
	"math/big"
	"math/rand"
	"slices"
	"testing"

	"ringdown/api"
)

// The polynomials of this file are lists of pairs, calculated with in the plainest way.

func cut(p []pair) []pair {
	for len(p) > 0 && p[len(p)-1].isZero() {
		p = p[:len(p)-1]
	}
	return p
}

func multiply(p, q []pair) []pair {
	if len(p) == 0 || len(q) == 0 {
		return nil
	}
	product := make([]pair, len(p)+len(q)-1)
	for i := range product {
		product[i] = pairOf(0)
	}
	for i, a := range p {
		for j, b := range q {
			product[i+j] = product[i+j].plus(a.times(b))
		}
	}
	return cut(product)
}

func combine(p, q []pair, f func(a, b pair) pair) []pair {
	sum := make([]pair, max(len(p), len(q)))
	for i := range sum {
		a, b := pairOf(0), pairOf(0)
		if i < len(p) {
			a = p[i]
		}
		if i < len(q) {
			b = q[i]
		}
		sum[i] = f(a, b)
	}
	return cut(sum)
}

func evaluate(p []pair, x pair) pair {
	total := pairOf(0)
	for _, c := range slices.Backward(p) {
		total = total.times(x).plus(c)
	}
	return total
}

func derivative(p []pair) []pair {
	var list []pair
	for k := 1; k < len(p); k++ {
		list = append(list, p[k].times(pairOf(int64(k))))
	}
	return cut(list)
}

// withZeros puts zeros behind, which belong to no degree.
func withZeros(r *rand.Rand, p []pair, most int) []api.Num {
	l := texts(p)
	for range min(r.Intn(3), most-len(l)) {
		l = append(l, "0")
	}
	return l
}

var tooLong = slices.Repeat(list("x"), 34)

// P1.6: what is a polynomial, and in which order errors come.
func TestPolyErrors(t *testing.T) {
	good, bad := list("1", "2"), list("1", "2/4")
	for _, x := range []struct {
		p    []api.Num
		want api.Errno
	}{{nil, api.OK}, {list("0"), api.OK}, {good, api.OK}, {slices.Repeat(list("i"), 33), api.OK}, {slices.Repeat(list("0"), 34), api.ErrShape}, {tooLong, api.ErrShape}, {bad, api.ErrNum}, {list(""), api.ErrNum}} {
		if e := CheckPoly(x.p); e != x.want {
			t.Errorf("CheckPoly(%s): %d", x.p, e)
		}
	}
	two := map[string]func(p, q []api.Num) ([]api.Num, api.Errno){
		"PolyAdd": PolyAdd, "PolySub": PolySub, "PolyMul": PolyMul, "Common": Common,
		"quotient": func(p, q []api.Num) ([]api.Num, api.Errno) { a, _, e := Divide(p, q); return a, e },
		"rest":     func(p, q []api.Num) ([]api.Num, api.Errno) { _, a, e := Divide(p, q); return a, e },
		"Derive":   func(p, q []api.Num) ([]api.Num, api.Errno) { return Derive(p) },
	}
	for what, f := range two {
		l, e := f(tooLong, bad)
		failsList(t, what, l, e, api.ErrShape)
		l, e = f(bad, tooLong)
		failsList(t, what, l, e, api.ErrNum)
		if what == "Derive" {
			continue
		}
		l, e = f(good, tooLong)
		failsList(t, what, l, e, api.ErrShape)
		l, e = f(good, bad)
		failsList(t, what, l, e, api.ErrNum)
	}
	a, e := At(tooLong, "x")
	fails(t, "At", a, e, api.ErrShape)
	a, e = At(bad, "1")
	fails(t, "At", a, e, api.ErrNum)
	for _, x := range []struct {
		p, q []api.Num
		want api.Errno
	}{{tooLong, bad, api.ErrShape}, {slices.Repeat(list("1"), 18), slices.Repeat(list("1"), 17), api.ErrShape}, {slices.Repeat(list(nines(2000)), 33), list("0", nines(2000)), api.ErrShape}} {
		l, e := PolyMul(x.p, x.q)
		failsList(t, "PolyMul", l, e, x.want)
	}
	for _, q := range [][]api.Num{nil, {}, {"0"}, {"0", "0", "0"}} {
		l, m, e := Divide(good, q)
		failsList(t, "Divide", l, e, api.ErrZero)
		failsList(t, "Divide", m, e, api.ErrZero)
	}
}

// P1.6: values, sums, products; P1.13 follows from these.
func TestPolySums(t *testing.T) {
	r := rand.New(rand.NewSource(11))
	for range 300 {
		p, q := cut(randomPairs(r, r.Intn(9), smallPair)), cut(randomPairs(r, r.Intn(9), smallPair))
		x := smallPair(r)
		a, b := withZeros(r, p, 33), withZeros(r, q, 33)
		l, e := PolyAdd(a, b)
		sameList(t, "PolyAdd", l, e, texts(combine(p, q, pair.plus)))
		l, e = PolySub(a, b)
		sameList(t, "PolySub", l, e, texts(combine(p, q, pair.less)))
		l, e = PolyMul(a, b)
		sameList(t, "PolyMul", l, e, texts(multiply(p, q)))
		l, e = Derive(a)
		sameList(t, "Derive", l, e, texts(derivative(p)))
		n, e := At(a, x.text())
		same(t, "At", n, e, evaluate(p, x).text())
	}
	l, e := PolySub(list("1", "2"), list("0", "2"))
	sameList(t, "PolySub", l, e, list("1"))
	l, e = PolyAdd(list("1", "2"), list("-1", "-2", "0"))
	sameList(t, "PolyAdd", l, e, nil)
	n, e := At(nil, "5")
	same(t, "At", n, e, "0")
	n, e = At(list("1", "0", "1"), "i")
	same(t, "At", n, e, "0")
	l, e = Derive(list("5", "1", "3"))
	sameList(t, "Derive", l, e, list("1", "6"))
	for _, p := range [][]api.Num{nil, {"5"}, {"5", "0"}} {
		l, e = Derive(p)
		sameList(t, "Derive", l, e, nil)
	}
}

// P1.6: a product of degree 32 is good; zeros at the end do not count.
func TestLongProducts(t *testing.T) {
	r := rand.New(rand.NewSource(12))
	for _, n := range []int{1, 2, 17, 32, 33} {
		p, q := randomPairs(r, n, smallPair), randomPairs(r, 34-n, smallPair)
		p[n-1], q[33-n] = pairOf(2), pairOf(3)
		l, e := PolyMul(texts(p), texts(q))
		sameList(t, "PolyMul", l, e, texts(multiply(p, q)))
	}
	long := append(slices.Repeat(list("1"), 30), "0", "0", "0")
	l, e := PolyMul(long, append(list("1"), slices.Repeat(list("0"), 32)...))
	sameList(t, "PolyMul", l, e, long[:30])
	l, e = PolyMul(long, slices.Repeat(list("0"), 33))
	sameList(t, "PolyMul", l, e, nil)
}

// P1.7: p is q times the quotient plus the rest.
func TestDivide(t *testing.T) {
	r := rand.New(rand.NewSource(13))
	for range 300 {
		q := cut(randomPairs(r, 1+r.Intn(6), smallPair))
		if len(q) == 0 {
			continue
		}
		quotient, rest := cut(randomPairs(r, r.Intn(7), smallPair)), cut(randomPairs(r, r.Intn(len(q)), smallPair))
		p := combine(multiply(q, quotient), rest, pair.plus)
		a, b, e := Divide(withZeros(r, p, 33), withZeros(r, q, 33))
		sameList(t, "quotient", a, e, texts(quotient))
		sameList(t, "rest", b, e, texts(rest))
	}
	a, b, e := Divide(list("-1", "0", "0", "1"), list("-1", "1"))
	sameList(t, "quotient", a, e, list("1", "1", "1"))
	sameList(t, "rest", b, e, nil)
	a, b, e = Divide(list("1", "2"), list("0", "0", "i"))
	sameList(t, "quotient", a, e, nil)
	sameList(t, "rest", b, e, list("1", "2"))
	a, b, e = Divide(nil, list("5"))
	sameList(t, "quotient", a, e, nil)
	sameList(t, "rest", b, e, nil)
}

func euclid(p, q []pair) []pair {
	for len(q) > 0 {
		for len(p) >= len(q) {
			factor := p[len(p)-1].over(q[len(q)-1])
			shift := make([]pair, len(p)-len(q))
			for i := range shift {
				shift[i] = pairOf(0)
			}
			for _, c := range q {
				shift = append(shift, c.times(factor))
			}
			p = combine(p, shift, pair.less)
		}
		p, q = q, p
	}
	var monic []pair
	for _, c := range p {
		monic = append(monic, c.over(p[len(p)-1]))
	}
	return monic
}

// P1.7 and P1.13: the common divisor divides both, and every common divisor divides it.
func TestCommon(t *testing.T) {
	r := rand.New(rand.NewSource(14))
	for range 300 {
		g := cut(randomPairs(r, r.Intn(5), smallPair))
		p, q := multiply(g, randomPairs(r, r.Intn(4), smallPair)), multiply(g, randomPairs(r, r.Intn(4), smallPair))
		a, b := withZeros(r, p, 33), withZeros(r, q, 33)
		common, e := Common(a, b)
		sameList(t, "Common", common, e, texts(euclid(p, q)))
		if len(common) == 0 {
			continue
		}
		for _, l := range [][]api.Num{a, b} {
			_, rest, e := Divide(l, common)
			sameList(t, "rest", rest, e, nil)
		}
		if len(g) > 0 {
			_, rest, e := Divide(common, texts(g))
			sameList(t, "rest of the common divisor", rest, e, nil)
		}
	}
	for _, x := range [][3][]api.Num{
		{{"-1", "0", "1"}, {"1", "2", "1"}, {"1", "1"}},
		{nil, {"0"}, nil},
		{{"0", "0"}, {"2", "4"}, {"1/2", "1"}},
		{{"2i", "4i"}, nil, {"1/2", "1"}},
		{{"5"}, {"0", "1"}, {"1"}},
		{{"7i"}, {"3"}, {"1"}},
		{{"1", "0", "1"}, {"i", "1"}, {"i", "1"}},
		{{"0", "0", "3"}, {"0", "5"}, {"0", "1"}},
	} {
		common, e := Common(x[0], x[1])
		sameList(t, "Common", common, e, x[2])
	}
}

// P1.13: polynomials of degree 32 with a common divisor of each size.
func TestLongCommon(t *testing.T) {
	r := rand.New(rand.NewSource(18))
	for _, n := range []int{0, 1, 8, 16, 24, 31, 32} {
		g, p, q := randomPairs(r, n+1, smallPair), randomPairs(r, 33-n, smallPair), randomPairs(r, 33-n, smallPair)
		g[n], p[32-n], q[32-n] = pairOf(1), pairOf(2), pairOf(3)
		common, e := Common(texts(multiply(g, p)), texts(multiply(g, q)))
		sameList(t, "Common", common, e, texts(g))
	}
}

// Common looks at a first prime before it makes a chain: what has its highest coefficient there must not be misjudged.
func TestCommonAtFirstPrime(t *testing.T) {
	for f := range fields() {
		prime := api.Num(natOf(f.prime).decimal())
		p, e := PolyMul(list("1", prime), list("3", "1"))
		if e != api.OK {
			t.Fatal(e)
		}
		q, e := PolyMul(list("1", prime), list("5", "1"))
		if e != api.OK {
			t.Fatal(e)
		}
		want := list("1/"+prime, "1")
		common, e := Common(p, q)
		sameList(t, "Common", common, e, want)
		// Apart modulo nothing but this prime.
		common, e = Common(list("1", "1"), list(must[api.Num](t)(Add(prime, "1")), "1"))
		sameList(t, "Common", common, e, list("1"))
		break
	}
}

// P1.13: the derivative of a product.
func TestDerivedProduct(t *testing.T) {
	r := rand.New(rand.NewSource(15))
	for range 100 {
		p, q := texts(randomPairs(r, r.Intn(8), smallPair)), texts(randomPairs(r, r.Intn(8), smallPair))
		get := must[[]api.Num](t)
		left := get(Derive(get(PolyMul(p, q))))
		right := get(PolyAdd(get(PolyMul(get(Derive(p)), q)), get(PolyMul(p, get(Derive(q))))))
		sameList(t, "derivatives", left, api.OK, right)
	}
}

// P1.8: errors of Count.
func TestCountErrors(t *testing.T) {
	for _, x := range []struct {
		p         []api.Num
		low, high api.Num
		want      api.Errno
	}{
		{tooLong, "x", "x", api.ErrShape},
		{list("2/4"), "x", "x", api.ErrNum},
		{list("i"), "x", "1", api.ErrNum},
		{list("i"), "1", "0", api.ErrReal},
		{list("1", "1+i", "1"), "0", "1", api.ErrReal},
		{nil, "i", "1", api.ErrReal},
		{nil, "0", "i", api.ErrReal},
		{nil, "1", "0", api.ErrZero},
		{list("0", "0"), "1", "0", api.ErrZero},
		{list("1", "1"), "1", "0", api.ErrRange},
		{list("1"), "1/2", "1/3", api.ErrRange},
	} {
		if n, e := Count(x.p, x.low, x.high); n != 0 || e != x.want {
			t.Errorf("Count(%s, %s, %s): %d, %d", x.p, x.low, x.high, n, e)
		}
	}
}

// P1.8 and P1.14: zeros that are known, some of them more than once, times a polynomial without any.
func TestCount(t *testing.T) {
	r := rand.New(rand.NewSource(16))
	small := func() *big.Rat { return big.NewRat(int64(r.Intn(13)-6), int64(r.Intn(3)+1)) }
	for range 400 {
		p := []pair{{big.NewRat(int64(r.Intn(9)*2-9), 7), new(big.Rat)}}
		var known []*big.Rat
		for range r.Intn(7) {
			zero := small()
			known = append(known, zero)
			for range 1 + r.Intn(3)/2 {
				p = multiply(p, []pair{{new(big.Rat).Neg(zero), new(big.Rat)}, pairOf(1)})
			}
		}
		if r.Intn(2) == 0 {
			// (x - a)^2 + b^2 has no real zeros.
			a, b := small(), big.NewRat(1, 2)
			square := new(big.Rat).Add(new(big.Rat).Mul(a, a), b)
			p = multiply(p, []pair{{square, new(big.Rat)}, pair{a, new(big.Rat)}.times(pairOf(-2)), pairOf(1)})
		}
		low, high := small(), small()
		if low.Cmp(high) > 0 {
			low, high = high, low
		}
		want := map[string]bool{}
		for _, zero := range known {
			if zero.Cmp(low) > 0 && zero.Cmp(high) <= 0 {
				want[zero.RatString()] = true
			}
		}
		n, e := Count(withZeros(r, p, 33), api.Num(low.RatString()), api.Num(high.RatString()))
		if n != len(want) || e != api.OK {
			t.Fatalf("Count(%s, %s, %s): %d, %d, not %d", texts(p), low.RatString(), high.RatString(), n, e, len(want))
		}
	}
	for _, x := range []struct {
		p         []api.Num
		low, high api.Num
		want      int
	}{
		{list("-2", "0", "1"), "0", "2", 1},
		{list("-2", "0", "1"), "-2", "2", 2},
		{list("0", "0", "1"), "-1", "1", 1},
		{list("0", "1"), "0", "1", 0},
		{list("0", "1"), "-1", "0", 1},
		{list("0", "0", "0", "1"), "0", "0", 0},
		{list("7"), "-1", "1", 0},
		{list("1", "0", "1"), "-9", "9", 0},
		{list("-1/" + nines(2000)), "0", "1", 0},
		{list("-"+nines(2000), "1"), "0", nines(2000), 1},
		{list("-"+nines(2000), "1"), "0", nines(1999) + "8", 0},
	} {
		if n, e := Count(x.p, x.low, x.high); n != x.want || e != api.OK {
			t.Errorf("Count(%.40s, %.40s, %.40s): %d, %d", x.p, x.low, x.high, n, e)
		}
	}
}

// P1.8: polynomials of degree 32: Chebyshev's has all of its zeros from -1 to 1, Wilkinson's the first whole numbers.
func TestCountLong(t *testing.T) {
	before, p := []pair{pairOf(1)}, []pair{pairOf(0), pairOf(1)}
	wilkinson := []pair{pairOf(1)}
	for k := int64(1); k <= 32; k++ {
		wilkinson = multiply(wilkinson, []pair{pairOf(-k), pairOf(1)})
		if k > 1 {
			before, p = p, combine(multiply([]pair{pairOf(0), pairOf(2)}, p), before, pair.less)
		}
	}
	for _, x := range []struct {
		p         []pair
		low, high api.Num
		want      int
	}{{p, "-1", "1", 32}, {p, "0", "1", 16}, {p, "99/100", "1", 1}, {p, "1", "5", 0}, {wilkinson, "0", "32", 32}, {wilkinson, "1", "31", 30}, {wilkinson, "63/2", "32", 1}} {
		if n, e := Count(texts(x.p), x.low, x.high); n != x.want || e != api.OK {
			t.Errorf("Count from %s to %s: %d, %d", x.low, x.high, n, e)
		}
	}
}

// P1.14: counts add up.
func TestCountsAddUp(t *testing.T) {
	r := rand.New(rand.NewSource(17))
	for range 200 {
		p := randomPairs(r, 1+r.Intn(8), smallPair)
		for i := range p {
			p[i].y = new(big.Rat)
		}
		if len(cut(p)) == 0 {
			continue
		}
		places := []*big.Rat{smallPair(r).x, smallPair(r).x, smallPair(r).x}
		slices.SortFunc(places, (*big.Rat).Cmp)
		count := func(low, high *big.Rat) int {
			return must[int](t)(Count(texts(p), api.Num(low.RatString()), api.Num(high.RatString())))
		}
		if count(places[0], places[1])+count(places[1], places[2]) != count(places[0], places[2]) {
			t.Fatalf("Count(%s) at %s", texts(p), places)
		}
	}
}
