package search

import (
	"fmt"
	"math/rand"
	"slices"
	"testing"

	"ringdown/api"
)

func validRecords() [][]int {
	return lists(nil, list(), list(0), list(1<<14), list(-1<<14), make([]int, 1024), slices.Repeat(list(1<<14, -1<<14), 512))
}

func wrongRecords() [][]int {
	l := lists(make([]int, 1025), make([]int, 2000), make([]int, 100000))
	for _, n := range list(1<<14+1, -1<<14-1, 1<<15, 1<<32, 1<<62, 1<<63-1, -1<<63) {
		l = append(l, list(n), list(n, 0, 0), list(0, 0, n), list(0, n, 0, 0), append(make([]int, 1023), n))
	}
	return l
}

// P8.4: the example, windows with a sample in common, beside each other, and with a sample between them.
func TestBursts(t *testing.T) {
	loud := 1 << 14
	for _, c := range []struct {
		x                 []int
		window, threshold int
		want              []api.Burst
	}{
		{list(0, 0, 3, 4, 0, 0, 0, 5), 2, 16, burstList(2, 5, 25, 6, 8, 25)}, {list(0, 0, 3, 4, 0, 0, 0, 5), 2, 17, burstList(2, 4, 25, 6, 8, 25)}, {list(0, 0, 3, 4, 0, 0, 0, 5), 2, 25, burstList(2, 4, 25, 6, 8, 25)}, {list(0, 0, 3, 4, 0, 0, 0, 5), 2, 26, nil}, {list(0, 0, 3, 4, 0, 0, 0, 5), 2, 9, burstList(1, 5, 25, 6, 8, 25)}, {list(0, 0, 3, 4, 0, 0, 0, 5), 2, 10, burstList(2, 5, 25, 6, 8, 25)}, {list(0, 0, 3, 4, 0, 0, 0, 5), 1, 1, burstList(2, 4, 16, 7, 8, 25)}, {list(0, 0, 3, 4, 0, 0, 0, 5), 8, 50, burstList(0, 8, 50)}, {list(0, 0, 3, 4, 0, 0, 0, 5), 8, 51, nil}, {list(0, 0, 3, 4, 0, 0, 0, 5), 9, 1, nil}, {list(0, 0, 3, 4, 0, 0, 0, 5), 1024, 1, nil},
		{nil, 1, 1, nil}, {nil, 1024, 1 << 60, nil}, {list(0), 1, 1, nil}, {list(-1), 1, 1, burstList(0, 1, 1)}, {list(-1), 2, 1, nil}, {make([]int, 1024), 1, 1, nil},
		// Windows of one sample: beside each other, or not.
		{list(1, 2, 0, 3, 1), 1, 1, burstList(0, 2, 4, 3, 5, 9)}, {list(1, 2, 0, 3, 1), 1, 2, burstList(1, 2, 4, 3, 4, 9)},
		// Windows of two: hot ones one, two and three samples apart.
		{list(1, 1, 1, 0, 0, 0), 2, 2, burstList(0, 3, 2)}, {list(1, 1, 1, 1, 0, 0), 2, 2, burstList(0, 4, 2)}, {list(2, -2, 0, 2, -2, 0), 2, 8, burstList(0, 2, 8, 3, 5, 8)}, {list(2, 1, 1, 2), 2, 5, burstList(0, 4, 5)}, {list(2, 1, 0, 1, 2), 2, 5, burstList(0, 2, 5, 3, 5, 5)}, {list(0, 2, 1, 1, 2, 0), 2, 5, burstList(1, 5, 5)},
		// Windows of three, whose beginnings are two and three apart.
		{list(3, 0, 0, 0, 3, 0, 0), 3, 9, burstList(0, 7, 9)}, {list(3, 1, 0, 0, 1, 3), 3, 10, burstList(0, 6, 10)}, {list(3, 1, 0, 0, 0, 1, 3), 3, 10, burstList(0, 3, 10, 4, 7, 10)}, {list(3, 0, 1, 0, 3, 0, 1), 3, 10, burstList(0, 7, 10)},
		// The peak may be the first, a middle, or the last one.
		{list(9, 2, 2, 2), 2, 8, burstList(0, 4, 85)}, {list(2, 2, 9, 2), 2, 8, burstList(0, 4, 85)}, {list(2, 2, 2, 9), 2, 8, burstList(0, 4, 85)}, {list(2, 2, 0, 5, 5), 2, 8, burstList(0, 5, 50)},
		{slices.Repeat(list(loud, -loud), 512), 1024, 1 << 38, burstList(0, 1024, 1<<38)}, {slices.Repeat(list(loud, -loud), 512), 1024, 1<<38 + 1, nil}, {slices.Repeat(list(loud, -loud), 512), 1024, 1 << 60, nil}, {slices.Repeat(list(loud, -loud), 512), 1, 1 << 28, burstList(0, 1024, 1<<28)}, {slices.Repeat(list(loud, -loud), 512), 1023, 1, burstList(0, 1024, 1023<<28)},
	} {
		b, e := Bursts(c.x, c.window, c.threshold)
		isList(t, fmt.Sprint(c.x[:min(8, len(c.x))], c.window, c.threshold), b, e, c.want, api.OK)
	}
	// As many as there can be.
	var want []api.Burst
	for i := range 512 {
		want = append(want, api.Burst{From: 2 * i, To: 2*i + 1, Peak: 1})
	}
	b, e := Bursts(slices.Repeat(list(1, 0), 512), 1, 1)
	isList(t, "many", b, e, want, api.OK)
}

// P8.4: ErrPulses comes first, then ErrRange.
func TestErrorsOfBursts(t *testing.T) {
	for _, n := range list(1, 0, -1) {
		for _, x := range wrongRecords() {
			b, e := Bursts(x, n, n)
			isList(t, fmt.Sprint(len(x), n), b, e, nil, api.ErrPulses)
		}
	}
	for _, x := range validRecords() {
		for _, n := range list(0, -1, 1025, 1<<32, 1<<62, 1<<63-1, -1<<63) {
			b, e := Bursts(x, n, 1)
			isList(t, fmt.Sprint(len(x), n), b, e, nil, api.ErrRange)
		}
		for _, n := range list(0, -1, 1<<60+1, 1<<62, 1<<63-1, -1<<63) {
			b, e := Bursts(x, 1, n)
			isList(t, fmt.Sprint(len(x), n), b, e, nil, api.ErrRange)
			b, e = Bursts(x, 1024, n)
			isList(t, fmt.Sprint(len(x), n), b, e, nil, api.ErrRange)
		}
		for _, window := range list(1, 2, 1023, 1024) {
			for _, threshold := range list(1, 1<<38, 1<<60) {
				_, e := Bursts(x, window, threshold)
				hasError(t, fmt.Sprint(len(x), window, threshold), e, api.OK)
			}
		}
	}
}

// P8.4, P8.12: as the definitions say; each hot window lies in one burst, and greater thresholds make none outside of those before.
func TestRandomBursts(t *testing.T) {
	r := rand.New(rand.NewSource(4))
	many := map[int]int{}
	for range 4000 {
		x, window := randomRecord(r, 60), 1+r.Intn(pick(r, 1, 2, 5, 20))
		threshold := 1 + r.Intn(pick(r, 1, 20, 1000, 1<<28))
		what := fmt.Sprint(x, window, threshold)
		b, e := Bursts(x, window, threshold)
		isList(t, what, b, e, modelBursts(x, window, threshold), api.OK)
		for _, at := range modelHot(x, window, threshold) {
			in := 0
			for _, one := range b {
				if one.From <= at && at+window <= one.To && one.Peak >= modelPower(x, at, window) {
					in++
				}
			}
			is(t, what, in, api.OK, 1, api.OK)
		}
		for _, one := range must[[]api.Burst](t)(Bursts(x, window, threshold+r.Intn(threshold+1))) {
			isIn := func(other api.Burst) bool { return other.From <= one.From && one.To <= other.To }
			if !slices.ContainsFunc(b, isIn) {
				t.Errorf("%s: %v lies in none of %v", what, one, b)
			}
		}
		many[min(len(b), 4)]++
	}
	for n := range 5 {
		if many[n] < 50 {
			t.Errorf("%d records with %d bursts", many[n], n)
		}
	}
}

// P8.4: the longest records.
func TestLongBursts(t *testing.T) {
	r := rand.New(rand.NewSource(5))
	for range 20 {
		x := randomList(r, api.MaxSamples, pick(r, 3, api.MaxPulse))
		for _, window := range list(1, 2, 64, 700, 1023, 1024) {
			threshold := modelPower(x, r.Intn(len(x)-window+1), window)
			threshold += 1 + threshold/8
			b, e := Bursts(x, window, threshold)
			isList(t, fmt.Sprint(window, threshold), b, e, modelBursts(x, window, threshold), api.OK)
		}
	}
}
