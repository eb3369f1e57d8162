package glitch

import (
	"fmt"
	"math/rand"
	"slices"
	"testing"

	"ringdown/api"
)

// segments returns those of veto.
func segments(bounds ...int) []api.Segment { return veto("", bounds...).Segments }

// P6.5: stretches, as few as possible, within the span.
func TestHeld(t *testing.T) {
	most := 1 << 30
	for _, c := range []struct {
		v    api.Veto
		span int
		want []api.Segment
	}{
		{veto("a"), 20, nil}, {veto("a", 3, 5), 20, segments(3, 5)}, {veto("a", 0, 20), 20, segments(0, 20)}, {veto("a", 0, most), most, segments(0, most)}, {veto("a", 0, most), 1, segments(0, 1)},
		{veto("a", 5, 7, 0, 2), 20, segments(0, 2, 5, 7)}, {veto("a", 0, 2, 2, 5), 20, segments(0, 5)}, {veto("a", 2, 5, 0, 2), 20, segments(0, 5)}, {veto("a", 0, 2, 3, 5), 20, segments(0, 2, 3, 5)}, {veto("a", 0, 5, 3, 9), 20, segments(0, 9)}, {veto("a", 0, 9, 3, 5), 20, segments(0, 9)}, {veto("a", 0, 9, 3, 5, 4, 7, 9, 11), 20, segments(0, 11)}, {veto("a", 3, 5, 3, 5), 20, segments(3, 5)}, {veto("a", 3, 9, 3, 5), 20, segments(3, 9)}, {veto("a", 3, 5, 3, 9), 20, segments(3, 9)},
		{veto("a", 0, 9, 3, 5, 8, 12, 14, 15), 20, segments(0, 12, 14, 15)},
		{veto("a", 3, 5), 5, segments(3, 5)}, {veto("a", 3, 5), 4, segments(3, 4)}, {veto("a", 3, 5), 3, nil}, {veto("a", 3, 5), 1, nil}, {veto("a", 3, 5, 7, 9), 8, segments(3, 5, 7, 8)}, {veto("a", 3, 5, 7, 9), 7, segments(3, 5)}, {veto("a", 7, 9, 3, 5), 6, segments(3, 5)},
		{veto("a", most-1, most), most, segments(most-1, most)}, {veto("a", most-1, most), most - 1, nil}, {veto("a", upTo(64)...), 20, segments(upTo(20)...)},
	} {
		s, e := Held(c.v, c.span)
		isList(t, fmt.Sprint(c.v, c.span), s, e, c.want, api.OK)
	}
}

// P6.5: the dead time of several vetoes, each time counted once.
func TestDead(t *testing.T) {
	most := 1 << 30
	for _, c := range []struct {
		l    []api.Veto
		span int
		want int
	}{
		{nil, 20, 0}, {exampleVetoes(), 20, 10}, {exampleVetoes(), 6, 6}, {exampleVetoes()[1:], 20, 2}, {exampleVetoes()[1:], 6, 1}, {exampleVetoes()[1:], 5, 0}, {vetoes(veto("a")), 20, 0},
		{vetoes(veto("a", 0, 5), veto("b", 5, 7)), 20, 7}, {vetoes(veto("a", 0, 5), veto("b", 3, 7)), 20, 7}, {vetoes(veto("a", 9, 11, 0, 5), veto("b", 10, 12, 3, 4)), 20, 8}, {vetoes(veto("a", 0, 5), veto("b", 0, 5)), 20, 5},
		{vetoes(veto("a", 0, most)), most, most}, {vetoes(veto("a", 0, most), veto("b", 0, most)), most, most}, {vetoes(veto("a", 0, most)), 1, 1}, {vetoes(veto("a", most-1, most), veto("b", 0, 1)), most, 2},
	} {
		n, e := Dead(c.l, c.span)
		is(t, fmt.Sprint(c.l, c.span), n, e, c.want, api.OK)
	}
}

// P6.5: times that vetoes do not catch; the first time of a segment counts, the last one does not.
func TestPassed(t *testing.T) {
	most := 1 << 30
	for _, c := range []struct {
		l           []api.Veto
		times, want []int
	}{
		{nil, list(1, 6), list(1, 6)}, {exampleVetoes(), list(1, 6), nil}, {exampleVetoes()[1:], list(1, 6), list(1)}, {exampleVetoes()[1:], upTo(9), list(0, 1, 2, 3, 4, 7, 8)}, {exampleVetoes(), upTo(12), list(10, 11)}, {vetoes(veto("a", 7, 9, 1, 2), veto("b", 4, 5)), upTo(10), list(0, 2, 3, 5, 6, 9)},
		{vetoes(veto("a", 0, most)), list(0, most-1, most), list(most)}, {vetoes(veto("a", most-1, most)), list(most-2, most-1, most), list(most-2, most)}, {vetoes(veto("a")), upTo(256), upTo(256)},
	} {
		times, e := Passed(c.l, c.times)
		isList(t, fmt.Sprint(c.l, c.times), times, e, c.want, api.OK)
	}
}

// P6.5: the example, and which veto is the best one.
func TestRank(t *testing.T) {
	most := 1 << 30
	for _, c := range []struct {
		l     []api.Veto
		times []int
		span  int
		want  []api.Ranked
	}{
		{exampleVetoes(), list(1, 6), 20, []api.Ranked{{Veto: 1, Caught: 1, Dead: 2}, {Veto: 0, Caught: 1, Dead: 8}}},
		{exampleVetoes(), list(6), 20, []api.Ranked{{Veto: 1, Caught: 1, Dead: 2}}}, {exampleVetoes(), list(1), 20, []api.Ranked{{Veto: 0, Caught: 1, Dead: 10}}}, {exampleVetoes(), list(15), 20, nil}, {exampleVetoes(), nil, 20, nil}, {nil, list(1, 6), 20, nil}, {vetoes(veto("a"), veto("b")), list(1), 20, nil},
		// The quotients are equal: the greater number, then the first one.
		{vetoes(veto("a", 0, 2), veto("b", 4, 8)), list(1, 5, 6), 20, []api.Ranked{{Veto: 1, Caught: 2, Dead: 4}, {Veto: 0, Caught: 1, Dead: 2}}},
		{vetoes(veto("b", 4, 8), veto("a", 0, 2)), list(1, 5, 6), 20, []api.Ranked{{Veto: 0, Caught: 2, Dead: 4}, {Veto: 1, Caught: 1, Dead: 2}}},
		{vetoes(veto("b", 4, 6), veto("a", 0, 2)), list(1, 5), 20, []api.Ranked{{Veto: 0, Caught: 1, Dead: 2}, {Veto: 1, Caught: 1, Dead: 2}}},
		{vetoes(veto("a", 0, 2), veto("b", 0, 2), veto("c", 0, 2)), list(1), 20, []api.Ranked{{Veto: 0, Caught: 1, Dead: 2}}},
		// The quotient decides, not the number, nor the dead time.
		{vetoes(veto("a", 0, 10), veto("b", 12, 14)), list(1, 2, 3, 12), 20, []api.Ranked{{Veto: 1, Caught: 1, Dead: 2}, {Veto: 0, Caught: 3, Dead: 10}}},
		{vetoes(veto("b", 12, 14), veto("a", 0, 4)), list(0, 1, 2, 12), 20, []api.Ranked{{Veto: 1, Caught: 3, Dead: 4}, {Veto: 0, Caught: 1, Dead: 2}}},
		{vetoes(veto("a", 0, 3), veto("b", 4, 7, 8, 12)), list(0, 1, 4, 5, 8, 9), 20, []api.Ranked{{Veto: 0, Caught: 2, Dead: 3}, {Veto: 1, Caught: 4, Dead: 7}}},
		// What is caught already does not count, nor does the dead time that is there already.
		{vetoes(veto("a", 0, 4), veto("b", 3, 9), veto("c", 8, 12)), list(1, 2, 3, 5, 10), 20, []api.Ranked{{Veto: 0, Caught: 3, Dead: 4}, {Veto: 2, Caught: 1, Dead: 4}, {Veto: 1, Caught: 1, Dead: 4}}},
		{vetoes(veto("a", 0, 4), veto("b", 3, 9)), list(1, 2, 3), 20, []api.Ranked{{Veto: 0, Caught: 3, Dead: 4}}},
		// Times behind the span cost nothing; then the number decides.
		{vetoes(veto("a", 0, 1), veto("b", 25, 26), veto("c", 26, 30)), list(0, 25, 26, 27), 20, []api.Ranked{{Veto: 2, Caught: 2}, {Veto: 1, Caught: 1}, {Veto: 0, Caught: 1, Dead: 1}}},
		{vetoes(veto("a", 0, 1, 25, 26), veto("b", 25, 26)), list(0, 25), 20, []api.Ranked{{Veto: 1, Caught: 1}, {Veto: 0, Caught: 1, Dead: 1}}},
		{vetoes(veto("a", 0, 1, 3, 5, 25, 27), veto("b", 3, 5, 27, 28)), list(0, 25, 26, 27), 20, []api.Ranked{{Veto: 0, Caught: 3, Dead: 3}, {Veto: 1, Caught: 1}}},
		{vetoes(veto("a", 30, 31), veto("b", 25, 26), veto("c", 25, 27)), list(25, 30), 20, []api.Ranked{{Veto: 0, Caught: 1}, {Veto: 1, Caught: 1}}},
		{vetoes(veto("a", 0, most), veto("b", most-1, most)), list(5, most-1, most), most, []api.Ranked{{Veto: 1, Caught: 1, Dead: 1}, {Veto: 0, Caught: 1, Dead: most - 1}}},
		{vetoes(veto("a", 0, most), veto("b", 0, most-1)), upTo(256), most, []api.Ranked{{Veto: 1, Caught: 256, Dead: most - 1}}},
		{vetoes(veto("a", 0, most), veto("b", 0, most-1)), append(upTo(255), most-1), most, []api.Ranked{{Veto: 0, Caught: 256, Dead: most}}},
	} {
		r, e := Rank(c.l, c.times, c.span)
		isList(t, fmt.Sprint(c.l, c.times, c.span), r, e, c.want, api.OK)
	}
}

// P6.5, P6.11: as the definitions say; nothing is caught twice, and all that can be caught is.
func TestVetoesOfRandomTimes(t *testing.T) {
	r := rand.New(rand.NewSource(11))
	long := 0
	for range 1500 {
		end := pick(r, 8, 30, 60)
		l, times, span := randomVetoes(r, 6, end), randomTimes(r, end+5), 1+r.Intn(end+5)
		what := fmt.Sprint(l, times, span)
		for _, v := range l {
			s, e := Held(v, span)
			isList(t, what, s, e, modelHeld(v, span), api.OK)
		}
		n, e := Dead(l, span)
		is(t, what, n, e, modelDead(l, span), api.OK)
		passed, e := Passed(l, times)
		isList(t, what, passed, e, modelPassed(l, times), api.OK)
		ranking, e := Rank(l, times, span)
		isList(t, what, ranking, e, modelRank(l, times, span), api.OK)
		left := times
		for _, k := range ranking {
			rest := must[[]int](t)(Passed(l[k.Veto:k.Veto+1], left))
			is(t, what, k.Caught, api.OK, len(left)-len(rest), api.OK)
			left = rest
		}
		isList(t, what, left, api.OK, passed, api.OK)
		if len(ranking) > 2 {
			long++
		}
	}
	if long < 200 {
		t.Errorf("%d rankings of more than two", long)
	}
}

// P6.5: the most of all.
func TestManyVetoes(t *testing.T) {
	r := rand.New(rand.NewSource(12))
	var l []api.Veto
	for i := range 12 {
		v := veto(fmt.Sprint("v", i))
		for range 32 {
			from := r.Intn(3000)
			v.Segments = append(v.Segments, api.Segment{From: from, To: from + 1 + r.Intn(20)})
		}
		l = append(l, v)
	}
	times := slices.Sorted(slices.Values(r.Perm(3000)[:256]))
	ranking, e := Rank(l, times, 3000)
	isList(t, "Rank", ranking, e, modelRank(l, times, 3000), api.OK)
	is(t, "ranked", len(ranking), e, 12, api.OK)
}
