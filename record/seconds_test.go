package record

import (
	"fmt"
	"math/rand"
	"slices"
	"testing"

	"ringdown/api"
)

const last = 1 << 30

// P5.5: the example, and gaps at the ends.
func TestGaps(t *testing.T) {
	b := example()
	for _, c := range []struct {
		starts   []int
		from, to int
		want     []api.Span
	}{
		{list(1, 2, 5), 0, 7, []api.Span{span(0, 1), span(3, 5), span(6, 7)}},
		{list(1, 2, 5), 1, 6, []api.Span{span(3, 5)}},
		{list(1, 2, 5), 1, 3, nil},
		{list(1, 2, 5), 2, 5, []api.Span{span(3, 5)}},
		{list(1, 2, 5), 3, 5, []api.Span{span(3, 5)}},
		{list(1, 2, 5), 4, 5, []api.Span{span(4, 5)}},
		{list(1, 2, 5), 5, 6, nil},
		{list(1, 2, 5), 6, 9, []api.Span{span(6, 9)}},
		{list(1, 2, 5), 0, 0, nil}, {list(1, 2, 5), 3, 3, nil}, {list(1, 2, 5), 5, 5, nil}, {list(1, 2, 5), last, last, nil},
		{list(), 0, last, []api.Span{span(0, last)}}, {list(), 4, 4, nil},
		{list(0), 0, last, []api.Span{span(1, last)}},
		{list(0, last), 0, last, []api.Span{span(1, last)}},
		{list(last-1, last), 0, last, []api.Span{span(0, last-1)}},
		{list(last-1, last), last - 1, last, nil},
		{list(last), last, last, nil},
	} {
		l := startingAt(c.starts...)
		spans, e := Gaps(b, l, c.from, c.to)
		isList(t, fmt.Sprint(c.starts, c.from, c.to), spans, e, c.want, api.OK)
	}
}

// P5.5: the samples of seconds that are there.
func TestSeries(t *testing.T) {
	b := example()
	l := []api.Frame{frame(1, list(1, 2, 3, 4), list(5)), frame(2, list(6, 7, 8, 9), list(-1)), frame(5, list(10, 11, 12, 13), list(-2)), frame(last, list(0, 0, 0, 1), list(1))}
	for _, c := range []struct {
		name     string
		from, to int
		want     []int
		e        api.Errno
	}{
		{"err", 1, 3, list(1, 2, 3, 4, 6, 7, 8, 9), api.OK}, {"aux", 1, 3, list(5, -1), api.OK},
		{"err", 1, 2, list(1, 2, 3, 4), api.OK}, {"aux", 5, 6, list(-2), api.OK},
		{"err", 0, 2, nil, api.ErrNone}, {"err", 1, 4, nil, api.ErrNone}, {"err", 2, 6, nil, api.ErrNone}, {"aux", 3, 5, nil, api.ErrNone}, {"aux", 5, 7, nil, api.ErrNone}, {"aux", last - 1, last, nil, api.ErrNone}, {"aux", 0, last, nil, api.ErrNone},
		{"err", 0, 0, nil, api.OK}, {"err", 3, 3, nil, api.OK}, {"aux", 1, 1, nil, api.OK}, {"aux", last, last, nil, api.OK},
		{"no", 1, 3, nil, api.ErrArg}, {"no", 0, 2, nil, api.ErrArg}, {"", 1, 1, nil, api.ErrArg}, {"ERR", 1, 3, nil, api.ErrArg}, {"er", 1, 3, nil, api.ErrArg},
	} {
		x, e := Series(b, l, c.name, c.from, c.to)
		isList(t, fmt.Sprint(c.name, c.from, c.to), x, e, c.want, c.e)
	}
	x, e := Series(b, nil, "err", 5, 5)
	isList(t, "no seconds of no frames", x, e, nil, api.OK)
	x, e = Series(b, nil, "err", 5, 6)
	isList(t, "a second of no frames", x, e, nil, api.ErrNone)
}

// P5.5: the longest series.
func TestLongestSeries(t *testing.T) {
	b := book(channel("a", 64, 24), channel("b", 1, 2))
	l := randomRecord(rand.New(rand.NewSource(12)), b, 64)
	var want []int
	for i := range l {
		l[i].Start = last - 64 + i
		want = append(want, l[i].Samples[0]...)
	}
	x, e := Series(b, l, "a", last-64, last)
	isList(t, "Series", x, e, want, api.OK)
	if len(x) != api.MaxSeries {
		t.Errorf("%d samples", len(x))
	}
}

// P5.5: the errors of Gaps and Series, in their order.
func TestErrorsOfSeconds(t *testing.T) {
	b, wrong := example(), api.Frame{Start: -1}
	both := func(what string, l []api.Frame, from, to int, want api.Errno) {
		t.Helper()
		spans, e := Gaps(b, l, from, to)
		isList(t, "Gaps: "+what, spans, e, nil, want)
		x, e := Series(b, l, "no", from, to)
		isList(t, "Series: "+what, x, e, nil, want)
	}
	for _, r := range [][2]int{{2, 1}, {-1, 5}, {-2, -1}, {0, last + 1}, {last + 1, last + 1}, {last, last - 1}, {-1 << 63, 1<<63 - 1}, {1<<63 - 1, -1 << 63}, {0, -1}, {-1, -1}, {last + 2, last + 1}} {
		for _, l := range [][]api.Frame{nil, startingAt(1, 2, 5)} {
			both("a wrong range", l, r[0], r[1], api.ErrRange)
		}
		both("many frames", slices.Repeat([]api.Frame{wrong}, 65), r[0], r[1], api.ErrLimit)
		both("a wrong frame", []api.Frame{exampleFrame(), exampleFrame(), wrong}, r[0], r[1], api.ErrFrame)
		both("no order", startingAt(1, 1), r[0], r[1], api.ErrRecord)
	}
}

// P5.5, P5.10: gaps and the seconds that are there make up all seconds; a series is there just where there are no gaps.
func TestGapsAndSeries(t *testing.T) {
	r := rand.New(rand.NewSource(13))
	for range 300 {
		b := randomBook(r, 2, 2)
		l := randomRecord(r, b, r.Intn(8))
		from := r.Intn(8)
		to := from + r.Intn(10)
		missing, want := make([]bool, to-from), []int{}
		for i := range missing {
			at := slices.IndexFunc(l, func(f api.Frame) bool { return f.Start == from+i })
			missing[i] = at < 0
			if at >= 0 {
				want = append(want, l[at].Samples[0]...)
			}
		}
		spans, e := Gaps(b, l, from, to)
		isList(t, "Gaps", spans, e, modelSpans(from, missing), api.OK)
		x, e := Series(b, l, b[0].Name, from, to)
		if slices.Contains(missing, true) {
			isList(t, "Series", x, e, nil, api.ErrNone)
		} else {
			isList(t, "Series", x, e, want, api.OK)
		}
	}
}
