package glitch

import (
	"fmt"
	"math/rand"
	"reflect"
	"slices"
	"strings"
	"testing"

	"ringdown/api"
)

func validSignals() [][]int {
	most := 1 << 20
	l := lists(example(), list(0), list(most), list(-most), list(most, -most), slices.Repeat(list(most, -most), 512), slices.Repeat(list(-most), 1024))
	for power := range 11 {
		l = append(l, make([]int, 1<<power))
	}
	return l
}

func wrongSignals() [][]int {
	l := lists(nil, list(), make([]int, 100000))
	for _, size := range list(3, 5, 6, 7, 9, 12, 15, 17, 24, 31, 33, 48, 63, 65, 96, 127, 129, 255, 257, 511, 513, 768, 1000, 1023, 1025, 1536, 2048, 4096) {
		l = append(l, make([]int, size))
	}
	for _, n := range list(1<<20+1, -1<<20-1, 1<<21, 1<<31, 1<<32, -1<<32, 1<<62, 1<<63-1, -1<<63) {
		l = append(l, list(n), list(n, 0), list(0, n), list(0, 0, n, 0), append(make([]int, 1023), n))
	}
	return l
}

// P6.1: which lists are signals.
func TestCheckSignal(t *testing.T) {
	for _, x := range validSignals() {
		hasError(t, "a signal", CheckSignal(x), api.OK)
	}
	for _, x := range wrongSignals() {
		hasError(t, fmt.Sprint(len(x)), CheckSignal(x), api.ErrSignal)
	}
}

// P6.1: ErrSignal comes before all other errors.
func TestSignalFirst(t *testing.T) {
	for _, x := range wrongSignals() {
		c, e := Transform(x)
		isList(t, "Transform", c, e, nil, api.ErrSignal)
		n, e := Energy(x)
		is(t, "Energy", n, e, 0, api.ErrSignal)
		l, e := Tiles(x)
		isList(t, "Tiles", l, e, nil, api.ErrSignal)
		for _, threshold := range list(0, 5, -1, 1<<60+1) {
			l, e := Loud(x, threshold)
			isList(t, "Loud", l, e, nil, api.ErrSignal)
			g, e := Glitches(x, threshold)
			isList(t, "Glitches", g, e, nil, api.ErrSignal)
		}
		for _, tiles := range [][]api.Tile{nil, exampleTiles(), {tile(0, 0, 0)}} {
			p, e := Part(x, tiles)
			isList(t, "Part", p, e, nil, api.ErrSignal)
		}
	}
}

// P6.2: which thresholds there are.
func TestThreshold(t *testing.T) {
	for threshold, many := range map[int]int{0: 3, 1: 2, 16: 1, 17: 0, 1 << 59: 0, 1<<60 - 1: 0, 1 << 60: 0} {
		l, e := Loud(example(), threshold)
		is(t, "Loud", len(l), e, many, api.OK)
	}
	for _, threshold := range list(-1, -2, -1<<60, -1<<63, 1<<60+1, 1<<61, 1<<62, 1<<63-1) {
		l, e := Loud(example(), threshold)
		isList(t, "Loud", l, e, nil, api.ErrRange)
		g, e := Glitches(example(), threshold)
		isList(t, "Glitches", g, e, nil, api.ErrRange)
	}
}

func validVetoes() [][]api.Veto {
	most := vetoes()
	for i := range 12 {
		most = append(most, veto(fmt.Sprint("v", i), upTo(64)...))
	}
	return [][]api.Veto{
		nil, {}, exampleVetoes(), most, vetoes(veto("a")), vetoes(veto("a", 0, 1)), vetoes(veto("a", 1<<30-1, 1<<30)), vetoes(veto("a", 0, 1<<30)), vetoes(veto("a234567890_23456", 7, 9)),
		// Segments may be in any order, be equal, and have times in common.
		vetoes(veto("a", 5, 7, 0, 2)), vetoes(veto("a", 5, 7, 5, 7)), vetoes(veto("a", 5, 9, 0, 7, 2, 3)), vetoes(veto("a", 0, 5, 5, 7)),
		vetoes(veto("a", 1, 2), veto("aa", 1, 2), veto("a_", 1, 2), veto("a0", 1, 2)),
	}
}

func wrongVetoes() [][]api.Veto {
	l := [][]api.Veto{
		{{}}, make([]api.Veto, 13), append(validVetoes()[3], veto("more")), vetoes(veto("a", 1, 2), veto("a", 3, 4)), vetoes(veto("a"), veto("b"), veto("a")), vetoes(veto("a"), veto("b"), veto("b")),
		vetoes(veto("a", upTo(66)...)), append(exampleVetoes(), veto("c", upTo(66)...)),
	}
	for _, name := range []string{"", "A", "1a", "_a", "a b", "a-b", "a2345678901234567", "ä", "a\x00", "\xff", strings.Repeat("a", 1000)} {
		l = append(l, vetoes(veto(name, 1, 2)), append(exampleVetoes(), veto(name, 1, 2)))
	}
	for _, s := range lists(list(0, 0), list(5, 5), list(5, 4), list(1, 0), list(-1, 1), list(-2, -1), list(-1, 0), list(0, 1<<30+1), list(1<<30, 1<<30), list(1<<30, 1<<30+1), list(1<<62, 1<<62+1), list(-1<<63, 1<<63-1), list(0, -1<<63)) {
		l = append(l, vetoes(veto("c", s...)), vetoes(veto("c", append(list(1, 2), s...)...)), append(exampleVetoes(), veto("c", s...)))
	}
	return l
}

// P6.5: which lists are vetoes.
func TestCheckVetoes(t *testing.T) {
	for _, l := range validVetoes() {
		hasError(t, fmt.Sprint(l), CheckVetoes(l), api.OK)
	}
	for _, l := range wrongVetoes() {
		hasError(t, fmt.Sprint(l), CheckVetoes(l), api.ErrVeto)
	}
}

func wrongSpans() []int {
	return list(0, -1, -1<<30, -1<<63, 1<<30+1, 1<<31, 1<<32+1, 1<<62, 1<<63-1)
}

func validTimes() [][]int {
	return lists(nil, list(), list(0), list(1<<30), list(0, 1, 1<<30), upTo(256))
}

func wrongTimes() [][]int {
	l := lists(upTo(257), make([]int, 2), make([]int, 1000), list(1, 1), list(1, 0), list(1, 3, 2), list(1, 2, 2, 3), append(upTo(255), 254))
	for _, n := range list(-1, -2, -1<<63, 1<<30+1, 1<<31, 1<<62, 1<<63-1) {
		l = append(l, list(n), list(1, n), list(n, 5))
	}
	return l
}

// P6.5: ErrVeto comes first, then ErrRange, then ErrMoments.
func TestErrorsOfVetoes(t *testing.T) {
	good := exampleVetoes()
	for _, l := range wrongVetoes() {
		for _, span := range append(wrongSpans(), 20) {
			n, e := Dead(l, span)
			is(t, "Dead", n, e, 0, api.ErrVeto)
			r, e := Rank(l, list(2, 1), span)
			isList(t, "Rank", r, e, nil, api.ErrVeto)
			r, e = Rank(l, list(1), span)
			isList(t, "Rank", r, e, nil, api.ErrVeto)
			if len(l) == 1 {
				s, e := Held(l[0], span)
				isList(t, "Held", s, e, nil, api.ErrVeto)
			}
		}
		for _, times := range append(wrongTimes(), nil, list(1)) {
			p, e := Passed(l, times)
			isList(t, "Passed", p, e, nil, api.ErrVeto)
		}
	}
	for _, span := range wrongSpans() {
		n, e := Dead(good, span)
		is(t, "Dead", n, e, 0, api.ErrRange)
		n, e = Dead(nil, span)
		is(t, "Dead", n, e, 0, api.ErrRange)
		s, e := Held(good[0], span)
		isList(t, "Held", s, e, nil, api.ErrRange)
		for _, times := range append(wrongTimes(), nil, list(1)) {
			r, e := Rank(good, times, span)
			isList(t, "Rank", r, e, nil, api.ErrRange)
		}
	}
	for _, times := range wrongTimes() {
		p, e := Passed(good, times)
		isList(t, "Passed", p, e, nil, api.ErrMoments)
		r, e := Rank(good, times, 20)
		isList(t, "Rank", r, e, nil, api.ErrMoments)
		r, e = Rank(nil, times, 20)
		isList(t, "Rank", r, e, nil, api.ErrMoments)
	}
	for _, times := range validTimes() {
		for _, l := range validVetoes() {
			_, e := Passed(l, times)
			hasError(t, "Passed", e, api.OK)
			for _, span := range list(1, 20, 1<<30-1, 1<<30) {
				_, e = Rank(l, times, span)
				hasError(t, "Rank", e, api.OK)
			}
		}
	}
}

// arguments are what all functions are called with.
type arguments struct {
	x, y      []int
	c         []int
	tiles     []api.Tile
	threshold int
	witnesses [][]int
	fit       []api.Num
	l         []api.Veto
	times     []int
}

func randomArguments(seed int64) arguments {
	r := rand.New(rand.NewSource(seed))
	a := arguments{x: randomSignal(r, 4), y: randomList(r, 6, 9), l: append(randomVetoes(r, 4, 20), veto("more", 15, 18, 3, 5, 4, 6)), times: randomTimes(r, 25)}
	a.c = modelCoefficients(a.x)
	a.tiles = modelTiles(a.x)
	a.tiles = a.tiles[:len(a.tiles)/2]
	a.threshold = randomThreshold(r, a.x)
	for i := range r.Intn(4) + 1 {
		w := randomList(r, 6, 9)
		w[i] = 100
		a.witnesses = append(a.witnesses, w)
	}
	a.fit = randomFit(r, len(a.witnesses))
	return a
}

// results are those of all functions, and their errors.
func results(a arguments) []any {
	var all []any
	two := func(x any, e api.Errno) { all = append(all, x, e) }
	all = append(all, CheckSignal(a.x), CheckVetoes(a.l))
	c, e := Transform(a.x)
	two(c, e)
	x, e := Inverse(a.c)
	two(x, e)
	two(Energy(a.x))
	tiles, e := Tiles(a.x)
	two(tiles, e)
	tiles, e = Loud(a.x, a.threshold)
	two(tiles, e)
	g, e := Glitches(a.x, a.threshold)
	two(g, e)
	p, e := Part(a.x, a.tiles)
	two(p, e)
	fit, rest, e := Fit(a.y, a.witnesses)
	two(fit, e)
	all = append(all, rest)
	two(Rest(a.y, a.witnesses, a.fit))
	left, e := Clean(a.y, a.witnesses, a.fit)
	two(left, e)
	held, e := Held(a.l[0], 17)
	two(held, e)
	two(Dead(a.l, 17))
	times, e := Passed(a.l, a.times)
	two(times, e)
	ranking, e := Rank(a.l, a.times, 17)
	two(ranking, e)
	return all
}

// spoil overwrites all lists of results, also behind their ends.
func spoil(all []any) {
	for _, a := range all {
		switch l := a.(type) {
		case []int:
			fill(l, 77)
		case []api.Tile:
			fill(l, tile(7, 7, 7))
		case []api.Glitch:
			fill(l, api.Glitch{From: 77})
		case []api.Num:
			fill(l, "77")
		case []api.Segment:
			fill(l, api.Segment{From: 77})
		case []api.Ranked:
			fill(l, api.Ranked{Veto: 77})
		}
	}
}

func fill[T any](l []T, x T) {
	l = l[:cap(l)]
	for i := range l {
		l[i] = x
	}
}

// P6.6, P1, P2: arguments are neither changed nor kept, and results are the same each time, whatever is done with those before.
func TestArgumentsAndResults(t *testing.T) {
	for seed := range int64(200) {
		a := randomArguments(seed)
		first := results(a)
		if !reflect.DeepEqual(a, randomArguments(seed)) {
			t.Fatalf("%v: arguments were changed", randomArguments(seed))
		}
		for i, x := range first {
			if e, ok := x.(api.Errno); ok && e != api.OK {
				t.Fatalf("%v: result %d: %d", a, i, e)
			}
		}
		spoil(first)
		if !reflect.DeepEqual(a, randomArguments(seed)) {
			t.Fatalf("%v: results share memory with arguments", randomArguments(seed))
		}
		if second, third := results(a), results(randomArguments(seed)); !reflect.DeepEqual(second, third) {
			t.Fatalf("%v, %v", second, third)
		}
	}
}

// P6.6: a list that is equal to its argument is a copy too.
func TestCopies(t *testing.T) {
	x, times, l := list(5), list(1, 6), veto("a", 0, 3)
	fill(must[[]int](t)(Transform(x)), 77)
	fill(must[[]int](t)(Inverse(x)), 77)
	fill(must[[]int](t)(Passed(nil, times)), 77)
	fill(must[[]api.Segment](t)(Held(l, 20)), api.Segment{})
	isList(t, "x", x, api.OK, list(5), api.OK)
	isList(t, "times", times, api.OK, list(1, 6), api.OK)
	isList(t, "segments", l.Segments, api.OK, veto("a", 0, 3).Segments, api.OK)
}

// P1: nil and empty arguments are the same.
func TestNilAndEmpty(t *testing.T) {
	for _, none := range lists(nil, list()) {
		hasError(t, "CheckSignal", CheckSignal(none), api.ErrSignal)
		x, e := Inverse(none)
		isList(t, "Inverse", x, e, nil, api.ErrTiles)
		times, e := Passed(exampleVetoes(), none)
		isList(t, "Passed", times, e, nil, api.OK)
		r, e := Rank(exampleVetoes(), none, 20)
		isList(t, "Rank", r, e, nil, api.OK)
		fit, rest, e := Fit(none, lists(list(1)))
		hasFit(t, "Fit", fit, rest, e, nil, "", api.ErrSignal)
		fit, rest, e = Fit(list(1), lists(none))
		hasFit(t, "Fit", fit, rest, e, nil, "", api.ErrWitness)
	}
	for _, none := range [][]api.Tile{nil, {}} {
		p, e := Part(example(), none)
		isList(t, "Part", p, e, make([]int, 4), api.OK)
	}
	for _, none := range [][][]int{nil, {}} {
		fit, rest, e := Fit(list(1), none)
		hasFit(t, "Fit", fit, rest, e, nil, "", api.ErrWitness)
	}
	for _, none := range [][]api.Num{nil, {}} {
		rest, e := Rest(list(1), lists(list(1)), none)
		is(t, "Rest", rest, e, "", api.ErrArg)
	}
	for _, none := range [][]api.Veto{nil, {}} {
		n, e := Dead(none, 20)
		is(t, "Dead", n, e, 0, api.OK)
		times, e := Passed(none, list(1, 6))
		isList(t, "Passed", times, e, list(1, 6), api.OK)
		r, e := Rank(none, list(1, 6), 20)
		isList(t, "Rank", r, e, nil, api.OK)
	}
	for _, none := range [][]api.Segment{nil, {}} {
		s, e := Held(api.Veto{Name: "a", Segments: none}, 20)
		isList(t, "Held", s, e, nil, api.OK)
	}
}
