package record

import (
	"fmt"
	"math/rand"
	"reflect"
	"slices"
	"strings"
	"testing"

	"ringdown/api"
)

func validBooks() [][]api.Channel {
	b := [][]api.Channel{
		example(), largest(), example()[:1],
		book(channel("a", 1, 2)), book(channel("a23456789012345_", 64, 24)),
		book(channel("b", 1, 2), channel("a", 1, 2)), book(channel("a", 1, 2), channel("aa", 1, 2), channel("a_", 1, 2), channel("a0", 1, 2)),
	}
	for _, rate := range list(1, 2, 4, 8, 16, 32, 64) {
		b = append(b, book(channel("a", rate, 8)))
	}
	for bits := 2; bits <= 24; bits++ {
		b = append(b, book(channel("a", 4, bits)))
	}
	return b
}

func wrongBooks() [][]api.Channel {
	b := [][]api.Channel{
		nil, {}, {{}}, make([]api.Channel, 1000),
		append(largest(), channel("more", 1, 8)),
		book(channel("a", 1, 8), channel("a", 1, 8)), book(channel("a", 1, 8), channel("b", 4, 8), channel("a", 2, 4)),
	}
	for _, rate := range list(0, -1, -2, -64, 3, 5, 6, 7, 12, 24, 48, 63, 65, 96, 128, 1<<62, -1<<63, -1<<62) {
		b = append(b, book(channel("a", rate, 8)), append(example(), channel("a", rate, 8)))
	}
	for _, bits := range list(0, 1, -1, 25, 32, 64, 1<<62, -1<<63) {
		b = append(b, book(channel("a", 4, bits)), append(example(), channel("a", 4, bits)))
	}
	for _, name := range []string{"", "A", "1a", "_a", "a b", "a-b", "a2345678901234567", "ä", "a\x00", "\xff", strings.Repeat("a", 1000)} {
		b = append(b, book(channel(name, 4, 8)), append(example(), channel(name, 4, 8)))
	}
	return b
}

// P5.1: which books are valid.
func TestCheckBook(t *testing.T) {
	for _, b := range validBooks() {
		hasError(t, fmt.Sprint(b), CheckBook(b), api.OK)
	}
	for _, b := range wrongBooks() {
		hasError(t, fmt.Sprint(b), CheckBook(b), api.ErrBook)
	}
}

// P5.1: ErrBook comes before all other errors.
func TestBookFirst(t *testing.T) {
	wrong := api.Frame{Start: -1}
	for _, b := range wrongBooks() {
		for _, f := range []api.Frame{wrong, exampleFrame()} {
			many := slices.Repeat([]api.Frame{f}, 65)
			hasError(t, "CheckFrame", CheckFrame(b, f), api.ErrBook)
			hasError(t, "CheckRecord", CheckRecord(b, many), api.ErrBook)
			hasError(t, "CheckRecord", CheckRecord(b, nil), api.ErrBook)
			code, e := Encode(b, f)
			isList(t, "Encode", code, e, nil, api.ErrBook)
			code, e = Pack(b, many)
			isList(t, "Pack", code, e, nil, api.ErrBook)
			spans, e := Gaps(b, many, 2, 1)
			isList(t, "Gaps", spans, e, nil, api.ErrBook)
			x, e := Series(b, many, "?", 2, 1)
			isList(t, "Series", x, e, nil, api.ErrBook)
		}
		for _, code := range [][]byte{nil, {1}, exampleCode(), make([]byte, 1<<20+1)} {
			f, e := Decode(b, code)
			hasFrame(t, "Decode", f, e, api.Frame{}, api.ErrBook)
			l, e := Unpack(b, code)
			hasFrames(t, "Unpack", l, e, nil, api.ErrBook)
			l, lost, e := Salvage(b, code)
			hasFrames(t, "Salvage", l, e, nil, api.ErrBook)
			isList(t, "Salvage", lost, e, nil, api.ErrBook)
		}
	}
}

func validFrames() []api.Frame {
	return []api.Frame{
		exampleFrame(), frame(0, list(0, 0, 0, 0), list(0)), frame(1<<30, list(0, 0, 0, 0), list(0)), frame(1<<30-1, list(0, 0, 0, 0), list(0)),
		frame(7, list(-128, 127, -128, 127), list(-8)), frame(7, list(127, 127, 127, -128), list(7)),
	}
}

// wrongFrames are not valid for the example's book.
func wrongFrames() []api.Frame {
	l := []api.Frame{
		{}, {Start: 1}, frame(1, list(0, 1, 1, 2)), frame(1, list(0, 1, 1, 2), list(-1), list()), frame(1, list(0, 1, 1, 2), list(-1), list(0)), frame(1, list(-1), list(0, 1, 1, 2)),
		frame(1, list(), list(-1)), frame(1, nil, list(-1)), frame(1, list(0, 1, 1), list(-1)), frame(1, list(0, 1, 1, 2, 3), list(-1)), frame(1, list(0, 1, 1, 2), nil), frame(1, list(0, 1, 1, 2), list(-1, -1)), frame(1, list(), list()), frame(1, list(0, 1, 1), list(-1, 0)),
		frame(1, make([]int, 1000), list(0)),
	}
	for _, start := range list(-1, 1<<30+1, 1<<31, 1<<32, 1<<32+1, 1<<62, -1<<63) {
		l = append(l, frame(start, list(0, 1, 1, 2), list(-1)))
	}
	for _, x := range list(-129, 128, 255, 1<<23) {
		l = append(l, frame(1, list(x, 0, 0, 0), list(0)), frame(1, list(0, 0, 0, x), list(0)))
	}
	for _, x := range list(-9, 8, 127) {
		l = append(l, frame(1, list(0, 0, 0, 0), list(x)))
	}
	return l
}

// P5.1, P5.2, P5.3: which frames are valid, also in a record.
func TestCheckFrame(t *testing.T) {
	b := example()
	for _, f := range validFrames() {
		hasError(t, fmt.Sprint(f), CheckFrame(b, f), api.OK)
		hasError(t, fmt.Sprint(f), CheckRecord(b, []api.Frame{f}), api.OK)
		g, e := Decode(b, must[[]byte](t)(Encode(b, f)))
		hasFrame(t, "Decode", g, e, f, api.OK)
	}
	huge := frame(1, list(0, 1, 1, 1<<62), list(-1<<63))
	for _, f := range append(wrongFrames(), huge) {
		hasError(t, fmt.Sprint(f), CheckFrame(b, f), api.ErrFrame)
		code, e := Encode(b, f)
		isList(t, "Encode", code, e, nil, api.ErrFrame)
		// Also where the Starts are not in order.
		for _, l := range [][]api.Frame{{f}, {exampleFrame(), exampleFrame(), f}, {f, exampleFrame(), exampleFrame()}} {
			hasError(t, fmt.Sprint(l), CheckRecord(b, l), api.ErrFrame)
			code, e := Pack(b, l)
			isList(t, "Pack", code, e, nil, api.ErrFrame)
		}
	}
	for bits := 2; bits <= 24; bits++ {
		b, most := book(channel("a", 1, bits)), 1<<(bits-1)
		for x, want := range map[int]api.Errno{-most - 1: api.ErrFrame, -most: api.OK, most - 1: api.OK, most: api.ErrFrame} {
			hasError(t, fmt.Sprint(bits, x), CheckFrame(b, frame(0, list(x))), want)
		}
	}
}

// P5.1: the errors of records, in their order.
func TestCheckRecord(t *testing.T) {
	b, wrong := example(), api.Frame{Start: -1}
	var most []int
	for i := range 64 {
		most = append(most, 3*i)
	}
	for _, l := range [][]api.Frame{nil, {}, startingAt(0), startingAt(0, 1), startingAt(5, 1<<30), startingAt(most...)} {
		hasError(t, fmt.Sprint(l), CheckRecord(b, l), api.OK)
	}
	for _, l := range [][]api.Frame{startingAt(0, 0), startingAt(1, 0), startingAt(1, 2, 2), startingAt(1, 3, 2, 4), startingAt(2, 3, 4, 1), startingAt(append(most, 0)[1:]...)} {
		hasError(t, fmt.Sprint(l), CheckRecord(b, l), api.ErrRecord)
		code, e := Pack(b, l)
		isList(t, "Pack", code, e, nil, api.ErrRecord)
	}
	for _, l := range [][]api.Frame{startingAt(append(most, 1000)...), slices.Repeat([]api.Frame{wrong}, 65), slices.Repeat(startingAt(3), 65), make([]api.Frame, 1000)} {
		hasError(t, "too many", CheckRecord(b, l), api.ErrLimit)
		code, e := Pack(b, l)
		isList(t, "Pack", code, e, nil, api.ErrLimit)
	}
}

// arguments are what all functions are called with.
type arguments struct {
	b           []api.Channel
	l           []api.Frame
	code, codes []byte
	m           api.Model
	x, shape    []int
}

func randomArguments(seed int64) arguments {
	r := rand.New(rand.NewSource(seed))
	b := randomBook(r, 3, 4)
	a := arguments{b: b, l: randomRecord(r, b, 5), x: randomSeries(r, 20), shape: randomLine(r, 6), m: randomModel(r)}
	a.code = modelCode(a.l[0])
	for i, f := range a.l {
		a.codes = append(append(a.codes, byte(i)), modelCode(f)...)
	}
	return a
}

// results calls all functions, and returns what they return.
func results(a arguments) []any {
	var all []any
	keep := func(values ...any) { all = append(all, values...) }
	two := func(a any, e api.Errno) { keep(a, e) }
	keep(CheckBook(a.b), CheckFrame(a.b, a.l[0]), CheckRecord(a.b, a.l), CheckModel(a.m), CheckSeries(a.x), CheckLine(a.shape))
	two(Encode(a.b, a.l[0]))
	two(Pack(a.b, a.l))
	two(Decode(a.b, a.code))
	two(Unpack(a.b, a.code))
	l, lost, e := Salvage(a.b, a.codes)
	keep(l, lost, e)
	two(Gaps(a.b, a.l, 0, 1000))
	two(Series(a.b, a.l, a.b[0].Name, a.l[0].Start, a.l[0].Start+1))
	two(Strain(a.m, a.x))
	two(Inject(a.shape, 3, a.x))
	two(Track(a.shape, a.x))
	two(Kept(a.shape, "3/7", a.x, "-100", "100"))
	two(Apart(a.shape, a.shape))
	return all
}

// spoil overwrites all lists of results, also behind their ends.
func spoil(all []any) {
	for _, a := range all {
		switch l := a.(type) {
		case []byte:
			fill(l, 77)
		case []int:
			fill(l, 77)
		case []api.Span:
			fill(l, api.Span{From: 77})
		case []api.Band:
			fill(l, api.Band{Low: 77})
		case api.Frame:
			for _, samples := range l.Samples {
				fill(samples, 77)
			}
			fill(l.Samples, nil)
		case []api.Frame:
			for _, f := range l {
				spoil([]any{f})
			}
			fill(l, api.Frame{})
		}
	}
}

func fill[T any](l []T, x T) {
	l = l[:cap(l)]
	for i := range l {
		l[i] = x
	}
}

// P5.8, P1, P2: arguments are neither changed nor kept, and results are the same each time, whatever is done with those before.
func TestArgumentsAndResults(t *testing.T) {
	for seed := range int64(100) {
		a := randomArguments(seed)
		first := results(a)
		if !reflect.DeepEqual(a, randomArguments(seed)) {
			t.Fatalf("%v: arguments were changed", randomArguments(seed))
		}
		for i, x := range first {
			if e, ok := x.(api.Errno); ok && e != api.OK {
				t.Fatalf("%v: result %d: %d", a, i, e)
			}
		}
		spoil(first)
		if !reflect.DeepEqual(a, randomArguments(seed)) {
			t.Fatalf("%v: results share memory with arguments", randomArguments(seed))
		}
		if second, third := results(a), results(randomArguments(seed)); !reflect.DeepEqual(second, third) {
			t.Fatalf("%v, %v", second, third)
		}
	}
}

// P5.8: the frames that are found share no memory with each other, nor do their channels.
func TestFramesShareNothing(t *testing.T) {
	b := book(channel("a", 4, 8), channel("b", 4, 8))
	r := rand.New(rand.NewSource(7))
	l := randomRecord(r, b, 6)
	codes := must[[]byte](t)(Pack(b, l))
	for i := range l {
		for k := range b {
			found := must[[]api.Frame](t)(Unpack(b, codes))
			fill(found[i].Samples[k], 99)
			want := cloneFrames(l)
			fill(want[i].Samples[k], 99)
			hasFrames(t, "Unpack", found, api.OK, want, api.OK)
		}
	}
}

// P1: nil and empty arguments are the same.
func TestNilAndEmpty(t *testing.T) {
	b := example()
	for _, none := range [][]api.Frame{nil, {}} {
		codes, e := Pack(b, none)
		isList(t, "Pack", codes, e, nil, api.OK)
		spans, e := Gaps(b, none, 3, 5)
		isList(t, "Gaps", spans, e, []api.Span{{From: 3, To: 5}}, api.OK)
	}
	for _, none := range [][]byte{nil, {}} {
		l, e := Unpack(b, none)
		hasFrames(t, "Unpack", l, e, nil, api.OK)
		l, lost, e := Salvage(b, none)
		hasFrames(t, "Salvage", l, e, nil, api.OK)
		isList(t, "Salvage", lost, e, nil, api.OK)
		f, e := Decode(b, none)
		hasFrame(t, "Decode", f, e, api.Frame{}, api.ErrForm)
	}
	for _, none := range [][]int{nil, {}} {
		hasError(t, "CheckSeries", CheckSeries(none), api.OK)
		bands, e := Strain(api.Model{Taps: []api.Tap{{}}}, none)
		isList(t, "Strain", bands, e, nil, api.OK)
		x, e := Inject(list(1, -1), 5, none)
		isList(t, "Inject", x, e, nil, api.OK)
		hasError(t, "CheckLine", CheckLine(none), api.ErrLine)
	}
	hasError(t, "CheckModel", CheckModel(api.Model{Taps: []api.Tap{}}), api.ErrModel)
}
