package loop

import (
	"math/big"
	"math/cmplx"
	"math/rand"
	"slices"
	"testing"

	"ringdown/api"
	"ringdown/num"
)

func list(l ...api.Num) []api.Num { return l }

func filterOf(in, out []api.Num) api.Filter { return api.Filter{In: in, Out: out} }

// example is the filter of the chapter's examples.
func example() api.Filter { return filterOf(list("0", "1/2"), list("1", "-1/2")) }

// allPole has the list as Out, and 1 as In.
func allPole(out ...api.Num) api.Filter { return filterOf(list("1"), out) }

// longest has as long numbers as there may be: the denominators have no common divisors.
func longest() api.Filter {
	return filterOf(
		list("-4096/4093", "4095/4091", "4095/4079", "-4096/4073", "4093/4057", "-4093/4051", "4091/4049"),
		list("1", "-3001/4027", "2003/4021", "-1009/4019", "503/4013", "-307/4007", "101/4003"),
	)
}

func cloneOf(f api.Filter) api.Filter {
	return api.Filter{In: slices.Clone(f.In), Out: slices.Clone(f.Out)}
}

func sameFilter(f, g api.Filter) bool {
	return slices.Equal(f.In, g.In) && slices.Equal(f.Out, g.Out)
}

// must returns a result of a call that has no error.
func must[T any](t *testing.T) func(T, api.Errno) T {
	return func(a T, e api.Errno) T {
		t.Helper()
		if e != api.OK {
			t.Fatalf("error %d", e)
		}
		return a
	}
}

func isFilter(t *testing.T, what string, got api.Filter, e api.Errno, want api.Filter) {
	t.Helper()
	if !sameFilter(got, want) || e != api.OK {
		t.Errorf("%s: %v, %d, not %v", what, got, e, want)
	}
}

// noFilter checks an error, and that there is nothing with it.
func noFilter(t *testing.T, what string, got api.Filter, e, want api.Errno) {
	t.Helper()
	if len(got.In)+len(got.Out) != 0 || e != want {
		t.Errorf("%s: %v, %d, not %d", what, got, e, want)
	}
}

func isList(t *testing.T, what string, got []api.Num, e api.Errno, want []api.Num) {
	t.Helper()
	if !slices.Equal(got, want) || e != api.OK {
		t.Errorf("%s: %v, %d, not %v", what, got, e, want)
	}
}

func noList(t *testing.T, what string, got []api.Num, e, want api.Errno) {
	t.Helper()
	if len(got) != 0 || e != want {
		t.Errorf("%s: %v, %d, not %d", what, got, e, want)
	}
}

// is checks a result that can be compared; with an error it is the zero value.
func is[T comparable](t *testing.T, what string, got T, e api.Errno, want T, wantError api.Errno) {
	t.Helper()
	if got != want || e != wantError {
		t.Errorf("%s: %v, %d, not %v, %d", what, got, e, want, wantError)
	}
}

func pick[T any](r *rand.Rand, l ...T) T { return l[r.Intn(len(l))] }

// What follows calculates with the library's numbers instead of the program's.

func rat(a api.Num) *big.Rat {
	x, ok := new(big.Rat).SetString(string(a))
	if !ok {
		panic(a)
	}
	return x
}

func rats(l []api.Num) []*big.Rat {
	result := make([]*big.Rat, len(l))
	for i, a := range l {
		result[i] = rat(a)
	}
	return result
}

func text(x *big.Rat) api.Num { return api.Num(x.RatString()) }

func texts(l []*big.Rat) []api.Num {
	result := make([]api.Num, len(l))
	for i, x := range l {
		result[i] = text(x)
	}
	return result
}

func ratAdd(a, b *big.Rat) *big.Rat { return new(big.Rat).Add(a, b) }

func ratSub(a, b *big.Rat) *big.Rat { return new(big.Rat).Sub(a, b) }

func ratMul(a, b *big.Rat) *big.Rat { return new(big.Rat).Mul(a, b) }

func ratDiv(a, b *big.Rat) *big.Rat { return new(big.Rat).Quo(a, b) }

func at(p []*big.Rat, i int) *big.Rat {
	if i >= 0 && i < len(p) {
		return p[i]
	}
	return new(big.Rat)
}

func modelProduct(p, q []*big.Rat) []*big.Rat {
	product := make([]*big.Rat, len(p)+len(q)-1)
	for k := range product {
		product[k] = new(big.Rat)
		for i := range p {
			product[k] = ratAdd(product[k], ratMul(p[i], at(q, k-i)))
		}
	}
	return product
}

func modelSum(p, q []*big.Rat) []*big.Rat {
	sum := make([]*big.Rat, max(len(p), len(q)))
	for k := range sum {
		sum[k] = ratAdd(at(p, k), at(q, k))
	}
	return sum
}

// modelRun is the output as the chapter defines it.
func modelRun(f api.Filter, x []*big.Rat) []*big.Rat {
	in, out := rats(f.In), rats(f.Out)
	y := make([]*big.Rat, len(x))
	for t := range x {
		y[t] = new(big.Rat)
		for k, c := range in {
			y[t] = ratAdd(y[t], ratMul(c, at(x, t-k)))
		}
		for k := 1; k < len(out); k++ {
			y[t] = ratSub(y[t], ratMul(out[k], at(y, t-k)))
		}
	}
	return y
}

func isShortRat(x *big.Rat) bool {
	most := big.NewInt(api.MaxShort)
	return x.Num().CmpAbs(most) <= 0 && x.Denom().Cmp(most) <= 0
}

// asFilter returns a filter, or an error if it has too many elements or too long ones.
func asFilter(in, out []*big.Rat) (api.Filter, api.Errno) {
	isLong := func(x *big.Rat) bool { return !isShortRat(x) }
	switch {
	case len(in) > 7 || len(out) > 7:
		return api.Filter{}, api.ErrLimit
	case slices.ContainsFunc(in, isLong) || slices.ContainsFunc(out, isLong):
		return api.Filter{}, api.ErrRange
	}
	return filterOf(texts(in), texts(out)), api.OK
}

func randomRat(r *rand.Rand) *big.Rat {
	switch r.Intn(10) {
	case 0, 1:
		return new(big.Rat)
	case 2:
		return big.NewRat(int64(r.Intn(8193)-4096), int64(r.Intn(4096)+1))
	case 3:
		return big.NewRat(int64(r.Intn(9)-4), 1)
	}
	return big.NewRat(int64(r.Intn(9)-4), int64(r.Intn(6)+1))
}

func randomRats(r *rand.Rand, n int) []*big.Rat {
	l := make([]*big.Rat, n)
	for i := range l {
		l[i] = randomRat(r)
	}
	return l
}

func randomSide(r *rand.Rand, n int) []api.Num { return texts(randomRats(r, n)) }

// randomFilter has any coefficients: most of them are not stable.
func randomFilter(r *rand.Rand, most int) api.Filter {
	out := randomSide(r, r.Intn(most)+1)
	out[0] = "1"
	return filterOf(randomSide(r, r.Intn(most)+1), out)
}

// factor is an Out whose zeros are known: the square of the greatest magnitude of one.
type factor struct {
	out    []api.Num
	square api.Num
}

// factors have zeros inside of the unit circle, on it and outside.
var factors = []factor{
	{list("1", "0"), "0"}, {list("1", "-1/2"), "1/4"}, {list("1", "1/2"), "1/4"}, {list("1", "1/3"), "1/9"}, {list("1", "-3/4"), "9/16"}, {list("1", "-7/8"), "49/64"},
	{list("1", "0", "1/2"), "1/2"}, {list("1", "0", "-1/2"), "1/2"}, {list("1", "-1", "1/2"), "1/2"}, {list("1", "1/2", "1/4"), "1/4"}, {list("1", "6/5", "9/10"), "9/10"}, {list("1", "-1/4", "63/64"), "63/64"}, {list("1", "-63/64"), "3969/4096"},
	{list("1", "1"), "1"}, {list("1", "-1"), "1"}, {list("1", "0", "1"), "1"}, {list("1", "-6/5", "1"), "1"}, {list("1", "1", "1"), "1"},
	{list("1", "2"), "4"}, {list("1", "-3/2"), "9/4"}, {list("1", "-2", "2"), "2"}, {list("1", "0", "-65/64"), "65/64"},
}

// randomOut is a product of some of the factors up to an index: Out, and the square of the greatest magnitude of a zero.
func randomOut(r *rand.Rand, upTo int) ([]api.Num, *big.Rat) {
	out, square := rats(list("1")), new(big.Rat)
	for range r.Intn(6) {
		f := factors[r.Intn(upTo)]
		product := modelProduct(out, rats(f.out))
		if _, e := asFilter(nil, product); e != api.OK {
			break
		}
		out = product
		if s := rat(f.square); s.Cmp(square) > 0 {
			square = s
		}
	}
	return texts(out), square
}

// stableFactors is how many of the factors have their zeros inside of the unit circle.
const stableFactors = 13

func randomStable(r *rand.Rand) api.Filter {
	out, _ := randomOut(r, stableFactors)
	return filterOf(randomSide(r, r.Intn(7)+1), out)
}

// greatestZero approximates the zeros of z^n A(1/z) (Durand and Kerner), and returns the greatest magnitude of one.
func greatestZero(out []*big.Rat) float64 {
	var p []complex128
	for _, c := range out {
		x, _ := ratDiv(c, out[0]).Float64()
		p = append(p, complex(x, 0))
	}
	zeros := make([]complex128, len(p)-1)
	for i := range zeros {
		zeros[i] = cmplx.Pow(complex(0.4, 0.9), complex(float64(i), 0))
	}
	for range 2000 {
		for i, z := range zeros {
			value, under := complex(0, 0), complex(1, 0)
			for _, c := range p {
				value = value*z + c
			}
			for j, other := range zeros {
				if i != j {
					under *= z - other
				}
			}
			zeros[i] = z - value/under
		}
	}
	greatest := 0.0
	for _, z := range zeros {
		greatest = max(greatest, cmplx.Abs(z))
	}
	return greatest
}

// around returns Out of the loop with a gain, times its first element.
func around(f api.Filter, k *big.Rat) []*big.Rat {
	in := rats(f.In)
	for i := range in {
		in[i] = ratMul(in[i], k)
	}
	return modelSum(in, rats(f.Out))
}

// calc returns a result of num, where no error is expected.
func calc[T any](a T, e api.Errno) T {
	if e != api.OK {
		panic(e)
	}
	return a
}

// reciprocals returns a polynomial of the gain that is 0 where the product of two zeros of what is around the loop is 1 (the resultant of it and of what it is in reverse), calculated from its values.
func reciprocals(f api.Filter) []api.Num {
	n := max(len(f.In), len(f.Out)) - 1
	var rows [][]api.Num
	var values []api.Num
	for k := range 2*n + 1 {
		p := texts(around(f, big.NewRat(int64(k), 1)))
		q := slices.Clone(p)
		slices.Reverse(q)
		var matrix [][]api.Num
		for _, row := range [2][]api.Num{p, q} {
			for i := range n {
				matrix = append(matrix, slices.Concat(slices.Repeat(list("0"), i), row, slices.Repeat(list("0"), n-1-i)))
			}
		}
		values = append(values, calc(num.Det(matrix)))
		powers := list("1")
		for range 2 * n {
			powers = append(powers, calc(num.Mul(powers[len(powers)-1], calc(num.Of(k, 1)))))
		}
		rows = append(rows, powers)
	}
	return calc(num.Solve(rows, values))
}
