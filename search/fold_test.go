package search

import (
	"fmt"
	"math/rand"
	"slices"
	"testing"

	"ringdown/api"
)

// P8.5: the example, and samples that are left over.
func TestFold(t *testing.T) {
	loud := 1 << 14
	for _, c := range []struct {
		x      []int
		period int
		want   []int
	}{
		{list(1, 2, 3, 1, 2, 3, 9), 3, list(2, 4, 6)}, {list(1, 2, 3, 1, 2, 3, 9), 1, list(21)}, {list(1, 2, 3, 1, 2, 3, 9), 2, list(6, 6)}, {list(1, 2, 3, 1, 2, 3, 9), 4, list(1, 2, 3, 1)}, {list(1, 2, 3, 1, 2, 3, 9), 7, list(1, 2, 3, 1, 2, 3, 9)}, {list(1, 2, 3, 1, 2, 3, 9), 6, list(1, 2, 3, 1, 2, 3)},
		{list(5), 1, list(5)}, {list(-3, 4, -5, 6), 2, list(-8, 10)}, {slices.Repeat(list(loud), 1024), 1, list(1 << 24)}, {slices.Repeat(list(-loud, loud), 512), 2, list(-1<<23, 1<<23)}, {slices.Repeat(list(loud), 1023), 512, slices.Repeat(list(loud), 512)},
	} {
		l, e := Fold(c.x, c.period)
		isList(t, fmt.Sprint(c.x[:min(8, len(c.x))], c.period), l, e, c.want, api.OK)
	}
}

// P8.5: strengths are not rounded.
func TestCompare(t *testing.T) {
	loud := 1 << 14
	for _, c := range []struct {
		x          []int
		p, q, want int
	}{
		{list(1, 2, 3, 1, 2, 3), 3, 2, 1}, {list(1, 2, 3, 1, 2, 3), 2, 3, -1}, {list(1, 2, 3, 1, 2, 3), 3, 6, 0}, {list(1, 2, 3, 1, 2, 3), 6, 3, 0}, {list(1, 2, 3, 1, 2, 3), 1, 1, 0}, {list(1, 2, 3, 1, 2, 3), 4, 5, -1},
		{list(1, 1, 1), 1, 3, 0}, {list(1, 0, 1, 1), 1, 4, -1}, {list(2, 1, 0), 1, 3, -1}, {list(2, 1), 1, 2, -1}, {list(2, 1), 2, 1, 1}, {list(2, 2, 1), 1, 3, -1}, {list(3, 0), 2, 1, 1}, {list(1, 2, 0), 1, 2, -1}, {list(0, 0, 3), 1, 2, 1}, {list(0, 2, 1, 0), 2, 3, -1}, {list(1, 1, 1, 0, 1, 1, 0, 0), 1, 3, -1},
		// 25/6 and 4: rounded down they are equal.
		{list(1, 1, 1, 1, 1, 0), 1, 4, 1}, {list(1, 1, 1, 1, 1, 0), 4, 1, -1},
		{list(0, 0), 1, 2, 0}, {list(5), 1, 1, 0}, {list(1, -1), 1, 2, -1}, {list(-1, -1), 1, 2, 0},
		{slices.Repeat(list(loud), 1024), 1, 1024, 0}, {slices.Repeat(list(loud), 1024), 1, 1023, 1}, {append(slices.Repeat(list(loud), 1023), loud-1), 1, 1024, -1}, {append(slices.Repeat(list(loud), 1023), -loud), 1, 1024, -1}, {slices.Repeat(list(loud, -loud), 512), 2, 1024, 0}, {slices.Repeat(list(loud, -loud), 512), 2, 1, 1},
	} {
		n, e := Compare(c.x, c.p, c.q)
		is(t, fmt.Sprint(c.x[:min(8, len(c.x))], c.p, c.q), n, e, c.want, api.OK)
	}
}

// P8.5: the example, and the least of several periods.
func TestPeriod(t *testing.T) {
	for _, c := range []struct {
		x              []int
		from, to, want int
	}{
		{list(1, 2, 3, 1, 2, 3), 1, 6, 3}, {list(1, 2, 3, 1, 2, 3), 4, 6, 6}, {list(1, 2, 3, 1, 2, 3), 4, 5, 5}, {list(1, 2, 3, 1, 2, 3), 1, 2, 1}, {list(1, 2, 3, 1, 2, 3), 2, 2, 2}, {list(1, 2, 3, 1, 2, 3), 3, 3, 3}, {list(1, 2, 3, 1, 2, 3), 6, 6, 6},
		{make([]int, 1024), 1, 1024, 1}, {make([]int, 1024), 7, 1024, 7}, {list(5), 1, 1, 1}, {list(1, 1, 1, 1), 1, 4, 1}, {list(1, 1, 1, 1), 2, 4, 2}, {list(1, 1, 1, 1), 3, 4, 4}, {list(1, -1, 1, -1), 1, 4, 2}, {list(1, 0, 0, 0), 1, 4, 3}, {list(1, 0, 0, 0), 1, 3, 3}, {list(1, 0, 0, 0, 0), 2, 5, 3},
		{slices.Repeat(list(1<<14, 0, 0, 0), 256), 1, 1024, 4}, {slices.Repeat(list(1<<14, 0, 0, 0), 256), 5, 1024, 8}, {slices.Repeat(list(1<<14, -1<<14), 512), 1, 1024, 2}, {slices.Repeat(list(-1<<14), 1024), 1, 1024, 1},
	} {
		n, e := Period(c.x, c.from, c.to)
		is(t, fmt.Sprint(c.x[:min(8, len(c.x))], c.from, c.to), n, e, c.want, api.OK)
	}
}

// P8.4, P8.5: ErrPulses comes first, then ErrRange.
func TestErrorsOfFolds(t *testing.T) {
	check := func(x []int, p, q int, fold, compare, period api.Errno) {
		t.Helper()
		what := fmt.Sprint(len(x), p, q)
		l, e := Fold(x, p)
		checkError(t, "Fold "+what, len(l), e, fold)
		n, e := Compare(x, p, q)
		if compare != api.OK {
			checkError(t, "Compare "+what, n, e, compare)
		}
		n, e = Period(x, p, q)
		checkError(t, "Period "+what, n, e, period)
	}
	const ok, wrong = api.OK, api.ErrRange
	for _, x := range wrongRecords() {
		for _, n := range list(1, 0, -1, 3000) {
			check(x, n, 1, api.ErrPulses, api.ErrPulses, api.ErrPulses)
			check(x, 1, n, api.ErrPulses, api.ErrPulses, api.ErrPulses)
		}
	}
	for _, x := range validRecords() {
		for _, n := range list(0, -1, len(x)+1, 1025, 1<<32, 1<<62, 1<<63-1, -1<<63) {
			check(x, n, n, wrong, wrong, wrong)
			if len(x) > 0 {
				check(x, n, 1, wrong, wrong, wrong)
				check(x, 1, n, ok, wrong, wrong)
				check(x, len(x), n, ok, wrong, wrong)
			}
		}
		if len(x) > 2 {
			check(x, 2, 1, ok, ok, wrong)
			check(x, len(x), len(x)-1, ok, ok, wrong)
			check(x, 1, len(x), ok, ok, ok)
			check(x, len(x), len(x), ok, ok, ok)
		}
	}
}

// P8.5, P8.13: as the definitions say; the fold adds up to the samples.
func TestRandomFolds(t *testing.T) {
	r := rand.New(rand.NewSource(6))
	orders, later := map[int]int{}, 0
	for range 4000 {
		x := append(randomRecord(r, pick(r, 3, 12, 60)), randomNumber(r, 3))
		// Some records repeat themselves, but for few samples.
		x = append(slices.Repeat(x, 1+r.Intn(4)), randomList(r, r.Intn(3), 2)...)
		p, q := 1+r.Intn(len(x)), 1+r.Intn(len(x))
		what := fmt.Sprint(x, p, q)
		l, e := Fold(x, p)
		isList(t, what, l, e, modelFold(x, p), api.OK)
		sum := 0
		for _, n := range l {
			sum += n
		}
		for _, n := range x[:len(x)/p*p] {
			sum -= n
		}
		is(t, what, sum, api.OK, 0, api.OK)
		n, e := Compare(x, p, q)
		is(t, what, n, e, modelStrength(x, p).Cmp(modelStrength(x, q)), api.OK)
		orders[n]++
		best, e := Period(x, min(p, q), max(p, q))
		is(t, what, best, e, modelPeriod(x, min(p, q), max(p, q)), api.OK)
		if min(p, q) < best && best < max(p, q) {
			later++
		}
	}
	if orders[-1] < 1000 || orders[0] < 100 || orders[1] < 1000 || later < 500 {
		t.Errorf("%v, %d periods between others", orders, later)
	}
}

// P8.5: the longest records with the greatest samples.
func TestLongFolds(t *testing.T) {
	r := rand.New(rand.NewSource(7))
	for range 3 {
		x := slices.Repeat(list(api.MaxPulse), api.MaxSamples-r.Intn(3))
		for range r.Intn(9) {
			x[r.Intn(len(x))] -= r.Intn(3)
		}
		for p := range list(1, 2, 3, 30, 341, 512, 1000) {
			p++
			q := 1 + r.Intn(len(x))
			n, e := Compare(x, p, q)
			is(t, fmt.Sprint(p, q), n, e, modelStrength(x, p).Cmp(modelStrength(x, q)), api.OK)
		}
		best, e := Period(x, 2, len(x))
		is(t, "the longest", best, e, modelPeriod(x, 2, len(x)), api.OK)
	}
}

// P8.13: what repeats itself is as strong at all multiples of the period that divide the length.
func TestRepeated(t *testing.T) {
	r := rand.New(rand.NewSource(8))
	for range 500 {
		p, m := 1+r.Intn(20), 1+r.Intn(24)
		x := slices.Repeat(randomList(r, p, pick(r, 1, 9, api.MaxPulse)), m)
		for k := 1; k <= m; k++ {
			if m%k == 0 {
				n, e := Compare(x, p, k*p)
				is(t, fmt.Sprint(x, p, k), n, e, 0, api.OK)
			}
		}
	}
}
