package num

import (
	"math/big"
	"math/rand"
	"slices"
	"testing"

	"ringdown/api"
)

func matrixTexts(m [][]pair) [][]api.Num {
	rows := make([][]api.Num, len(m))
	for i, row := range m {
		rows[i] = texts(row)
	}
	return rows
}

func randomMatrix(r *rand.Rand, n int, one func(*rand.Rand) pair) [][]pair {
	m := make([][]pair, n)
	for i := range m {
		m[i] = randomPairs(r, n, one)
	}
	return m
}

// plainDet expands a determinant along the first row.
func plainDet(m [][]pair) pair {
	if len(m) == 0 {
		return pairOf(1)
	}
	total := pairOf(0)
	for j, a := range m[0] {
		var minor [][]pair
		for _, row := range m[1:] {
			minor = append(minor, slices.Concat(row[:j], row[j+1:]))
		}
		term := a.times(plainDet(minor))
		if j%2 == 1 {
			term = pairOf(0).less(term)
		}
		total = total.plus(term)
	}
	return total
}

// P1.9: what is a matrix, and in which order errors come.
func TestMatrixErrors(t *testing.T) {
	row := func(n int, a api.Num) []api.Num { return slices.Repeat(list(a), n) }
	rows := func(n, columns int, a api.Num) [][]api.Num {
		m := make([][]api.Num, n)
		for i := range m {
			m[i] = row(columns, a)
		}
		return m
	}
	for _, x := range []struct {
		m    [][]api.Num
		want api.Errno
	}{
		{nil, api.OK}, {rows(24, 24, "i"), api.OK}, {rows(24, 0, ""), api.OK}, {rows(1, 24, "1"), api.OK},
		{rows(25, 1, "x"), api.ErrShape}, {rows(25, 0, ""), api.ErrShape}, {rows(1, 25, "x"), api.ErrShape},
		{[][]api.Num{{"x"}, {}}, api.ErrShape}, {[][]api.Num{{}, {"x"}}, api.ErrShape}, {[][]api.Num{{"x", "x"}, {"x", "x"}, {"x"}}, api.ErrShape},
		{rows(2, 2, "2/4"), api.ErrNum}, {[][]api.Num{{"1"}, {"1+0i"}}, api.ErrNum},
	} {
		if e := CheckMatrix(x.m); e != x.want {
			t.Errorf("CheckMatrix(%s): %d", x.m, e)
		}
		if x.want == api.OK {
			continue
		}
		a, e := Det(x.m)
		fails(t, "Det", a, e, x.want)
		l, e := Times(x.m, tooLong)
		failsList(t, "Times", l, e, x.want)
		l, e = Solve(x.m, tooLong)
		failsList(t, "Solve", l, e, x.want)
	}
	for _, m := range [][][]api.Num{rows(2, 3, "1"), rows(3, 2, "1"), rows(1, 0, ""), rows(24, 23, "0")} {
		a, e := Det(m)
		fails(t, "Det", a, e, api.ErrShape)
		l, e := Solve(m, list("x"))
		failsList(t, "Solve", l, e, api.ErrShape)
	}
	for _, v := range [][]api.Num{nil, {"x"}, {"x", "x", "x"}} {
		l, e := Times(rows(3, 2, "1"), v)
		failsList(t, "Times", l, e, api.ErrShape)
		l, e = Solve(rows(2, 2, "1"), v)
		failsList(t, "Solve", l, e, api.ErrShape)
	}
	l, e := Times(rows(3, 2, "1"), list("1", "x"))
	failsList(t, "Times", l, e, api.ErrNum)
	l, e = Solve(rows(2, 2, "1"), list("1", "x"))
	failsList(t, "Solve", l, e, api.ErrNum)
	l, e = Times(nil, list("1"))
	failsList(t, "Times", l, e, api.ErrShape)
	l, e = Solve(nil, list("1"))
	failsList(t, "Solve", l, e, api.ErrShape)
}

// P1.9: products.
func TestTimes(t *testing.T) {
	r := rand.New(rand.NewSource(21))
	for range 200 {
		n, columns := r.Intn(6), r.Intn(6)
		if n == 0 {
			columns = 0
		}
		v := randomPairs(r, columns, smallPair)
		var m [][]pair
		var want []pair
		for range n {
			row, total := randomPairs(r, columns, smallPair), pairOf(0)
			for j := range row {
				total = total.plus(row[j].times(v[j]))
			}
			m, want = append(m, row), append(want, total)
		}
		l, e := Times(matrixTexts(m), texts(v))
		sameList(t, "Times", l, e, texts(want))
	}
}

// P1.9 and P1.15: determinants.
func TestDet(t *testing.T) {
	r := rand.New(rand.NewSource(22))
	for range 300 {
		n := r.Intn(6)
		one := smallPair
		if n < 4 && r.Intn(2) == 0 {
			one = randomPair
		}
		m := randomMatrix(r, n, one)
		if n > 1 && r.Intn(3) == 0 {
			// The last row follows from the first one.
			factor := smallPair(r)
			for j := range m[0] {
				m[n-1][j] = m[0][j].times(factor)
			}
		}
		want := plainDet(m)
		a, e := Det(matrixTexts(m))
		sameOrBig(t, "Det", a, e, want)
		if n > 1 {
			i := r.Intn(n - 1)
			m[i], m[n-1] = m[n-1], m[i]
			a, e = Det(matrixTexts(m))
			sameOrBig(t, "Det with rows exchanged", a, e, pairOf(0).less(want))
		}
	}
	for _, x := range []struct {
		m    [][]api.Num
		want api.Num
	}{{nil, "1"}, {[][]api.Num{{"-1/2i"}}, "-1/2i"}, {[][]api.Num{{"1", "2"}, {"3", "4"}}, "-2"}, {[][]api.Num{{"0", "1"}, {"1", "0"}}, "-1"}, {[][]api.Num{{"0", "0"}, {"0", "0"}}, "0"}, {[][]api.Num{{"1", "i"}, {"i", "-1"}}, "0"}, {[][]api.Num{{"0"}}, "0"}} {
		a, e := Det(x.m)
		same(t, "Det", a, e, x.want)
	}
}

// P1.9 and P1.15: solutions.
func TestSolve(t *testing.T) {
	r := rand.New(rand.NewSource(23))
	for range 300 {
		n := r.Intn(6)
		m := randomMatrix(r, n, smallPair)
		if n > 1 && r.Intn(4) == 0 {
			m[n-1] = m[0]
		}
		v := texts(randomPairs(r, n, smallPair))
		x, e := Solve(matrixTexts(m), v)
		if plainDet(m).isZero() {
			failsList(t, "Solve", x, e, api.ErrSingular)
			continue
		}
		if e != api.OK || len(x) != n {
			t.Fatalf("Solve: %d", e)
		}
		l, e := Times(matrixTexts(m), x)
		sameList(t, "m times the solution", l, e, v)
	}
	x, e := Solve([][]api.Num{{"1", "i"}, {"0", "2"}}, list("1", "2"))
	sameList(t, "Solve", x, e, list("1-i", "1"))
	x, e = Solve([][]api.Num{{"1", "2"}, {"2", "4"}}, list("1", "2"))
	failsList(t, "Solve", x, e, api.ErrSingular)
	x, e = Solve([][]api.Num{{"0", "0"}, {"0", "1"}}, list("0", "2"))
	failsList(t, "Solve", x, e, api.ErrSingular)
	x, e = Solve(nil, nil)
	sameList(t, "Solve", x, e, nil)
}

// P1.9: matrices of 24 rows. Those of Hilbert have long solutions, and determinants that are very close to 0.
func TestLongMatrices(t *testing.T) {
	const n = 24
	r := rand.New(rand.NewSource(24))
	hilbert := make([][]pair, n)
	for i := range hilbert {
		for j := range n {
			hilbert[i] = append(hilbert[i], pair{big.NewRat(1, int64(i+j+1)), new(big.Rat)})
		}
	}
	// 1 / det is the product of (2k + 1) times the square of the binomial of 2k over k, k from 1 to n - 1.
	inverse := big.NewInt(1)
	for k := int64(1); k < n; k++ {
		b := new(big.Int).Binomial(2*k, k)
		inverse.Mul(inverse, b.Mul(b, b).Mul(b, big.NewInt(2*k+1)))
	}
	a, e := Det(matrixTexts(hilbert))
	same(t, "Det of Hilbert's matrix", a, e, api.Num("1/"+inverse.String()))
	for _, m := range [][][]pair{hilbert, randomMatrix(r, n, smallPair)} {
		want := randomPairs(r, n, smallPair)
		v := must[[]api.Num](t)(Times(matrixTexts(m), texts(want)))
		x, e := Solve(matrixTexts(m), v)
		sameList(t, "Solve", x, e, texts(want))
		m[7] = m[19]
		x, e = Solve(matrixTexts(m), v)
		failsList(t, "Solve", x, e, api.ErrSingular)
		a, e := Det(matrixTexts(m))
		same(t, "Det", a, e, "0")
	}
}

// The determinant must be right also where the primes that it is calculated with divide it, or a part of it.
func TestDetOfPrimes(t *testing.T) {
	product := valueOf(1)
	want := pairOf(1)
	var m [][]api.Num
	for f := range fields() {
		// With a - i, the number a is a root of -1 modulo the prime.
		a := value{gauss{wholeOf(int(f.i)), wholeOf(-1)}, natOf(1)}
		product = product.times(a)
		want = want.times(pair{new(big.Rat).SetInt(toBig(natOf(f.i))), big.NewRat(-1, 1)})
		row := slices.Repeat(list("0"), 4)
		row[len(m)] = must[api.Num](t)(write(a))
		if m = append(m, row); len(m) == 4 {
			break
		}
	}
	a, e := Det(m)
	same(t, "Det", a, e, want.text())
	same(t, "product", must[api.Num](t)(write(product)), api.OK, want.text())
	v := list("1", "2", "3", "4")
	x, e := Solve(m, v)
	if e != api.OK {
		t.Fatal(e)
	}
	l, e := Times(m, x)
	sameList(t, "m times the solution", l, e, v)
	for f := range fields() {
		prime := api.Num(natOf(f.prime).decimal())
		a, e := Det([][]api.Num{{prime}})
		same(t, "Det", a, e, prime)
		x, e := Solve([][]api.Num{{prime}}, list("1"))
		sameList(t, "Solve", x, e, list("1/"+prime))
		break
	}
}
