package num

import (
	"math"
	"math/rand"
	"slices"
	"testing"

	"ringdown/api"
)

// P1.11: numbers are a field, and what is calculated in different ways has the same text.
func TestFieldLaws(t *testing.T) {
	r := rand.New(rand.NewSource(31))
	get := must[api.Num](t)
	equal := func(what string, a, b api.Num) {
		t.Helper()
		if a != b || Check(a) != api.OK {
			t.Fatalf("%s: %s and %s", what, a, b)
		}
	}
	for range 500 {
		a, b, c := randomPair(r).text(), randomPair(r).text(), randomPair(r).text()
		equal("a + b", get(Add(a, b)), get(Add(b, a)))
		equal("a b", get(Mul(a, b)), get(Mul(b, a)))
		equal("(a + b) + c", get(Add(get(Add(a, b)), c)), get(Add(a, get(Add(b, c)))))
		equal("(a b) c", get(Mul(get(Mul(a, b)), c)), get(Mul(a, get(Mul(b, c)))))
		equal("a (b + c)", get(Mul(a, get(Add(b, c)))), get(Add(get(Mul(a, b)), get(Mul(a, c)))))
		equal("a - b + b", get(Add(get(Sub(a, b)), b)), a)
		if b != "0" {
			equal("a / b b", get(Mul(get(Div(a, b)), b)), a)
		}
		equal("conjugate of a sum", get(Conj(get(Add(a, b)))), get(Add(get(Conj(a)), get(Conj(b)))))
		equal("conjugate of a product", get(Conj(get(Mul(a, b)))), get(Mul(get(Conj(a)), get(Conj(b)))))
		equal("norm of a product", get(Norm(get(Mul(a, b)))), get(Mul(get(Norm(a)), get(Norm(b)))))
		equal("norm", get(Norm(a)), get(Mul(a, get(Conj(a)))))
		equal("parts", get(Join(get(Re(a)), get(Im(a)))), a)
		equal("sum", get(Sum(list(a, b, c))), get(Add(get(Add(a, b)), c)))
		equal("dot", get(Dot(list(a, b), list(b, c))), get(Add(get(Mul(a, b)), get(Mul(b, c)))))
		equal("square", get(Power(a, 2)), get(Mul(a, a)))
	}
}

// P1.12: the order goes with sums and with products; Floor is close.
func TestOrderLaws(t *testing.T) {
	r := rand.New(rand.NewSource(32))
	get, cmp := must[api.Num](t), must[int](t)
	for range 500 {
		a, b, c := api.Num(randomRat(r).RatString()), api.Num(randomRat(r).RatString()), api.Num(randomRat(r).RatString())
		order := cmp(Cmp(a, b))
		if cmp(Cmp(b, a)) != -order || cmp(Cmp(get(Add(a, c)), get(Add(b, c)))) != order {
			t.Fatalf("order of %s, %s, %s", a, b, c)
		}
		if cmp(Cmp(c, "0")) > 0 && cmp(Cmp(get(Mul(a, c)), get(Mul(b, c)))) != order {
			t.Fatalf("order of %s, %s, times %s", a, b, c)
		}
		floor := get(Floor(a))
		if cmp(Cmp(floor, a)) > 0 || cmp(Cmp(floor, get(Sub(a, "1")))) <= 0 {
			t.Fatalf("Floor(%s): %s", a, floor)
		}
	}
}

// P1.10: arguments stay as they are, and results are new.
func TestMemory(t *testing.T) {
	p, q, v := list("1", "2", "3", "0"), list("1", "1/2", "0"), list("5", "7")
	m := [][]api.Num{{"1", "2"}, {"3", "4"}}
	results := [][]api.Num{p, q, v, m[0], m[1]}
	keep := func(l []api.Num, e api.Errno) {
		if e != api.OK {
			t.Fatal(e)
		}
		results = append(results, l)
	}
	for range 2 {
		keep(PolyAdd(p, nil))
		keep(PolySub(p, nil))
		keep(PolyMul(p, list("1")))
		keep(Common(p, p))
		keep(Derive(p))
		quotient, rest, e := Divide(p, q)
		keep(quotient, e)
		keep(rest, e)
		quotient, rest, e = Divide(q, p)
		keep(quotient, e)
		keep(rest, e)
		keep(Times([][]api.Num{{"1", "0"}, {"0", "1"}}, v))
		keep(Solve([][]api.Num{{"1", "0"}, {"0", "1"}}, v))
		keep(Solve(m, v))
	}
	for i, want := range [][]api.Num{{"1", "2", "3", "0"}, {"1", "1/2", "0"}, {"5", "7"}, {"1", "2"}, {"3", "4"}} {
		if !slices.Equal(results[i], want) {
			t.Errorf("argument %d was changed to %s", i, results[i])
		}
	}
	before := make([][]api.Num, len(results))
	for i, l := range results {
		before[i] = slices.Clone(l)
	}
	for i, l := range results {
		// What shares memory with l, even behind its end, shows it.
		for k := range l[:cap(l)] {
			l[:cap(l)][k] = "!"
		}
		for k, other := range results {
			if k != i && !slices.Equal(other, before[k]) {
				t.Fatalf("results %d and %d share memory", i, k)
			}
		}
		copy(l, before[i])
	}
}

// P1 and P2: all calls end, without a panic, and give the same again.
func TestAnyArguments(t *testing.T) {
	odd := list("", "0", "1", "-1", "i", "1/2-3i", "x", "2/4", nines(2000), "1/"+nines(2000), nines(2001), "-"+nines(2000)+"+1/"+nines(2000)+"i", "\xff", "/", "-", "+")
	lists := [][]api.Num{nil, {}, {""}, {"0"}, {"0", "0"}, {"1", "x"}, {"1", "2"}, {"i", "0", "-1"}, tooLong, slices.Repeat(list("0"), 33), slices.Repeat(list("1"), 33)}
	matrices := [][][]api.Num{nil, {}, {nil}, {nil, nil}, {nil, {"1"}}, {{"1"}}, {{"0"}}, {{"x"}}, {{"1", "2"}, {"3", "i"}}, {tooLong}, make([][]api.Num, 25)}
	ints := []int{0, 1, -1, 64, 65, -64, math.MaxInt, math.MinInt}
	var first, second []any
	into := &first
	keep := func(results ...any) { *into = append(*into, results...) }
	calls := func() {
		for i, a := range odd {
			for _, f := range []func(api.Num) (api.Num, api.Errno){Re, Im, Neg, Conj, Norm, Unit, Floor} {
				got, e := f(a)
				keep(got, e)
			}
			n, e := Int(a)
			keep(IsName(string(a)), Check(a), IsReal(a), n, e)
			for _, n := range ints {
				low, high, e := Root(a, n)
				up, e2 := Power(a, n)
				keep(low, high, e, up, e2)
			}
			for _, b := range odd {
				for _, f := range []func(a, b api.Num) (api.Num, api.Errno){Join, Add, Sub, Mul, Div} {
					got, e := f(a, b)
					keep(got, e)
				}
				n, e := Cmp(a, b)
				keep(n, e)
			}
			for _, p := range lists {
				at, e := At(p, a)
				n, e2 := Count(p, a, odd[(i+1)%len(odd)])
				keep(at, e, n, e2)
			}
		}
		for _, p := range lists {
			sum, e := Sum(p)
			derived, e2 := Derive(p)
			keep(CheckPoly(p), sum, e, len(derived), e2)
			for _, q := range lists {
				dot, e := Dot(p, q)
				a, b, e2 := Divide(p, q)
				keep(dot, e, len(a), len(b), e2)
				for _, f := range []func(p, q []api.Num) ([]api.Num, api.Errno){PolyAdd, PolySub, PolyMul, Common} {
					l, e := f(p, q)
					keep(len(l), e)
				}
			}
			for _, m := range matrices {
				det, e := Det(m)
				l, e2 := Times(m, p)
				x, e3 := Solve(m, p)
				keep(CheckMatrix(m), det, e, len(l), e2, len(x), e3)
			}
		}
		for _, n := range ints {
			for _, d := range ints {
				a, e := Of(n, d)
				keep(a, e)
			}
		}
	}
	calls()
	into = &second
	calls()
	if !slices.Equal(first, second) {
		t.Error("the same calls give different results")
	}
}
