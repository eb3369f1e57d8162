package sky

import (
	"fmt"
	"math/big"
	"math/rand"
	"slices"
	"strings"
	"testing"

	"ringdown/api"
	"ringdown/num"
)

func exampleWeights() []int { return list(5, 1, 1, 3, 0, 0) }

// P9.4: the example, parts that are just enough, cells of the same weight, and of none.
func TestCredible(t *testing.T) {
	nines, most := api.Num(strings.Repeat("9", 200)), api.Num("1"+strings.Repeat("0", 199))
	for _, c := range []struct {
		n              int
		weights, cells []int
		part           api.Num
		want           []int
	}{
		{1, exampleWeights(), list(0, 2, 3), "1/2", list(0)}, {1, exampleWeights(), list(0, 2, 3), "2/3", list(0, 3)},
		{1, exampleWeights(), list(0, 2, 3), "5/9", list(0)}, {1, exampleWeights(), list(0, 2, 3), "139/250", list(0, 3)}, {1, exampleWeights(), list(0, 2, 3), "8/9", list(0, 3)}, {1, exampleWeights(), list(0, 2, 3), "9/10", list(0, 2, 3)}, {1, exampleWeights(), list(0, 2, 3), "1", list(0, 2, 3)}, {1, exampleWeights(), list(0, 2, 3), "0", nil}, {1, exampleWeights(), list(0, 2, 3), "1/" + most, list(0)},
		// Cells of no weight are never taken, as there is enough without them.
		{1, exampleWeights(), upTo(6), "1", list(0, 1, 2, 3)}, {1, exampleWeights(), list(4, 5), "1", nil}, {1, exampleWeights(), list(4), "0", nil}, {1, exampleWeights(), nil, "1", nil}, {1, make([]int, 6), upTo(6), "1", nil},
		// Of the same weight the first one is taken first.
		{1, list(2, 2, 2, 2, 2, 2), upTo(6), "1/2", list(0, 1, 2)}, {1, list(2, 2, 2, 2, 2, 2), upTo(6), "7/12", list(0, 1, 2, 3)}, {1, list(1, 2, 3, 3, 2, 1), upTo(6), "1/4", list(2)}, {1, list(1, 2, 3, 3, 2, 1), upTo(6), "2/3", list(1, 2, 3)}, {1, list(1, 2, 3, 3, 2, 1), list(0, 4, 5), "3/4", list(0, 4)},
		{1, list(1, 2, 3, 4, 5, 6), list(5), "1/2", list(5)}, {1, list(1, 2, 3, 4, 5, 6), upTo(6), "2/3", list(3, 4, 5)}, {1, list(1, 2, 3, 4, 5, 6), upTo(6), "5/7", list(3, 4, 5)}, {1, list(1, 2, 3, 4, 5, 6), upTo(6), "6/7", list(2, 3, 4, 5)},
		// All of the heaviest cells.
		{8, slices.Repeat(list(1000), 384), upTo(384), "1", upTo(384)}, {8, slices.Repeat(list(1000), 384), upTo(384), most + "/" + nines, upTo(39)}, {8, slices.Repeat(list(1000), 384), upTo(384), nines[:199] + "/" + most, upTo(384)}, {8, slices.Repeat(list(1000), 384), upTo(384), "1/2", upTo(192)},
	} {
		what := fmt.Sprint(c.n, c.weights[:6], len(c.cells), c.part)
		cells, e := Credible(c.n, c.weights, c.cells, c.part)
		isList(t, what, cells, e, c.want, api.OK)
		isList(t, what, cells, e, slices.Sorted(slices.Values(modelTaken(c.weights, c.cells, c.part))), api.OK)
	}
}

// wrongWeights are none for a grid.
func wrongWeights(n int) [][]int {
	many := 6 * n * n
	l := lists(nil, list(), make([]int, many-1), make([]int, many+1), make([]int, 2*many), make([]int, 100000))
	for _, weight := range beyond(0, 1000) {
		for _, at := range list(0, 1, many/2, many-1) {
			wrong := make([]int, many)
			wrong[at] = weight
			l = append(l, wrong)
		}
	}
	return l
}

// wrongSome are no cells of a grid, or not in order.
func wrongSome(n int) [][]int {
	many := 6 * n * n
	l := lists(list(0, 0), list(1, 0), list(0, 2, 1), list(0, 1, 1), list(many-1, many-2), append(upTo(many), many-1), append(upTo(many), many), make([]int, 100000))
	for _, cell := range wrongCells(n) {
		l = append(l, list(cell), list(0, cell), list(cell, 0), list(0, 2, cell))
	}
	return l
}

// P9.4: ErrGrid comes first, then ErrWeight, ErrNum, ErrReal and ErrRange.
func TestErrorsOfCredible(t *testing.T) {
	wrong := func(n int, weights, cells []int, part api.Num, want api.Errno) {
		t.Helper()
		got, e := Credible(n, weights, cells, part)
		isList(t, fmt.Sprint(n, len(weights), len(cells), part), got, e, nil, want)
	}
	for _, n := range wrongGrids() {
		for _, part := range nums("x", "i", "2", "1") {
			wrong(n, exampleWeights(), list(0), part, api.ErrGrid)
			wrong(n, nil, nil, part, api.ErrGrid)
			wrong(n, list(-1), list(7, 5), part, api.ErrGrid)
		}
	}
	for n := 1; n <= 8; n++ {
		good := make([]int, 6*n*n)
		for _, part := range nums("x", "i", "2", "1") {
			for _, weights := range wrongWeights(n) {
				wrong(n, weights, list(0), part, api.ErrWeight)
				wrong(n, weights, nil, part, api.ErrWeight)
				wrong(n, weights, list(1, 0), part, api.ErrWeight)
			}
			for _, cells := range wrongSome(n) {
				wrong(n, good, cells, part, api.ErrWeight)
			}
		}
	}
	digits := strings.Repeat("7", 200)
	for _, cells := range lists(nil, list(0, 2, 3)) {
		for _, part := range nums("", "x", "2/4", "+1", "01", "0.5", "1/0", api.Num(strings.Repeat("7", 2001)), "1-0i") {
			wrong(1, exampleWeights(), cells, part, api.ErrNum)
		}
		for _, part := range nums("i", "1+i", "1/2-i", api.Num(digits+"7i"), api.Num("2+"+digits+"7i")) {
			wrong(1, exampleWeights(), cells, part, api.ErrReal)
		}
		for _, part := range nums("-1", "-1/2", "2", "3/2", "1001/1000", "-1/1000", api.Num("1/"+digits+"7"), api.Num("2/"+digits+"7"), api.Num("-1/"+digits), api.Num(digits), api.Num(digits+"/2"), api.Num(digits+"7/1"+digits+"7")) {
			hasError(t, string(part), num.Check(part), api.OK)
			wrong(1, exampleWeights(), cells, part, api.ErrRange)
		}
		for _, part := range nums("0", "1", "1/2", api.Num("1/"+digits), api.Num(digits[1:]+"1/"+digits)) {
			_, e := Credible(1, exampleWeights(), cells, part)
			hasError(t, string(part), e, api.OK)
		}
	}
}

// randomPart is a part, sometimes with many digits, sometimes just at, or beside, a sum of weights.
func randomPart(r *rand.Rand, weights, cells []int) api.Num {
	d := 1 + r.Intn(pick(r, 2, 20, 1000))
	part := big.NewRat(int64(r.Intn(d+1)), int64(d))
	if all := sumOf(weights, cells); all > 0 && r.Intn(2) == 0 {
		part.SetFrac64(int64(sumOf(weights, cells[:r.Intn(len(cells)+1)])), int64(all))
		step := new(big.Int).Exp(big.NewInt(10), big.NewInt(int64(pick(r, 3, 50, 190))), nil)
		part.Add(part, new(big.Rat).SetFrac(big.NewInt(int64(pick(r, -1, 0, 1))), step))
	}
	if part.Sign() < 0 || part.Cmp(big.NewRat(1, 1)) > 0 {
		return "1"
	}
	return api.Num(part.RatString())
}

func sumOf(weights, cells []int) int {
	sum := 0
	for _, c := range cells {
		sum += weights[c]
	}
	return sum
}

// P9.4, P9.10: as the definitions say; the weights are enough, and without the last one they are not; a greater part removes none.
func TestRandomCredible(t *testing.T) {
	r := rand.New(rand.NewSource(1))
	some, more := 0, 0
	for range 3000 {
		n := 1 + r.Intn(pick(r, 2, 4, 8))
		weights, cells := randomWeights(r, n), randomSome(r, 6*n*n)
		part, other := randomPart(r, weights, cells), randomPart(r, weights, cells)
		what := fmt.Sprint(n, weights, cells, part)
		taken := modelTaken(weights, cells, part)
		got, e := Credible(n, weights, cells, part)
		isList(t, what, got, e, slices.Sorted(slices.Values(taken)), api.OK)
		enough := new(big.Rat).Mul(rat(part), big.NewRat(int64(sumOf(weights, cells)), 1))
		if big.NewRat(int64(sumOf(weights, got)), 1).Cmp(enough) < 0 {
			t.Errorf("%s: %v are not enough", what, got)
		}
		if len(taken) > 0 && big.NewRat(int64(sumOf(weights, taken[:len(taken)-1])), 1).Cmp(enough) >= 0 {
			t.Errorf("%s: %v are too many", what, got)
		}
		wider := must[[]int](t)(Credible(n, weights, cells, other))
		if rat(part).Cmp(rat(other)) > 0 {
			got, wider = wider, got
		}
		if !isSome(got, wider) {
			t.Errorf("%s, %s: %v, %v", what, other, got, wider)
		}
		if 0 < len(got) && len(got) < len(cells) {
			some++
		}
		if len(got) < len(wider) {
			more++
		}
	}
	if some < 500 || more < 500 {
		t.Errorf("%d with some cells, %d with more", some, more)
	}
}
