package record

import (
	"fmt"
	"math/big"
	"math/rand"
	"slices"
	"strings"
	"testing"

	"ringdown/api"
	"ringdown/num"
)

// randomLine has at most so many elements.
func randomLine(r *rand.Rand, most int) []int {
	for {
		size := pick(r, 1, 1, 3, 30)
		shape := make([]int, r.Intn(most-1)+2)
		sum := 0
		for i := range shape[1:] {
			shape[i] = r.Intn(2*size+1) - size
			sum += shape[i]
		}
		shape[len(shape)-1] = -sum
		if slices.ContainsFunc(shape, func(s int) bool { return s != 0 }) {
			return shape
		}
	}
}

func validLines() [][]int {
	long := slices.Repeat(list(1000, -1000), 16)
	return [][]int{list(1, -1), list(-1, 1), list(1000, -1000), list(1, 0, -1, 0), list(1, -1, 1, -1), list(0, 0, 0, 1, -1), list(1, 1, -2), long, append(make([]int, 30), 7, -7)}
}

func wrongLines() [][]int {
	return [][]int{
		nil, {}, list(0), list(1), list(0, 0), make([]int, 32), make([]int, 33), append(make([]int, 31), 7, -7), make([]int, 1000),
		list(1, 1), list(1, -2), list(1, 0), list(1, 0, 0), list(1001, -1001), list(-1001, 1001), list(1000, 1, -1001), list(2000, -1000, -1000),
		list(1<<62, 1<<62, 1<<62, 1<<62), list(-1<<63, -1<<63), list(1<<63-1, 1, -1<<63), slices.Repeat(list(1<<31, -1<<31), 4),
	}
}

// P5.7: which lists are lines, and ErrLine before all other errors.
func TestCheckLine(t *testing.T) {
	for _, shape := range validLines() {
		hasError(t, fmt.Sprint(shape), CheckLine(shape), api.OK)
		yes, e := Apart(shape, shape)
		is(t, "Apart of the same", yes, e, false, api.OK)
	}
	for _, shape := range wrongLines() {
		hasError(t, fmt.Sprint(shape), CheckLine(shape), api.ErrLine)
		for _, x := range append(wrongSeries(), nil, list(1, 2, 3)) {
			y, e := Inject(shape, 1001, x)
			isList(t, "Inject", y, e, nil, api.ErrLine)
			a, e := Track(shape, x)
			is(t, "Track", a, e, "", api.ErrLine)
			yes, e := Kept(shape, "x", x, "i", "0")
			is(t, "Kept", yes, e, false, api.ErrLine)
		}
		for _, pair := range [][2][]int{{shape, list(1, -1)}, {list(1, -1), shape}, {shape, shape}} {
			yes, e := Apart(pair[0], pair[1])
			is(t, "Apart", yes, e, false, api.ErrLine)
		}
	}
}

// P5.7: ErrSeries before the errors that follow.
func TestSeriesOfLines(t *testing.T) {
	for _, x := range wrongSeries() {
		y, e := Inject(list(1, -1), 1001, x)
		isList(t, "Inject", y, e, nil, api.ErrSeries)
		a, e := Track(list(1, -1), x)
		is(t, "Track", a, e, "", api.ErrSeries)
		yes, e := Kept(list(1, -1), "x", x, "i", "0")
		is(t, "Kept", yes, e, false, api.ErrSeries)
	}
}

// P5.7: the example, and the limits of what is injected.
func TestInject(t *testing.T) {
	most := 1 << 23
	for _, c := range []struct {
		shape     []int
		amplitude int
		x, want   []int
		e         api.Errno
	}{
		{list(1, -1), 3, list(5, 1, 4, 2, 9), list(8, -2, 7, -1, 12), api.OK},
		{list(1, -1), 0, list(5, 1, 4), list(5, 1, 4), api.OK},
		{list(1, -1), -2, list(5), list(3), api.OK},
		{list(2, 0, -2), 5, list(0, 0, 0, 1, 1), list(10, 0, -10, 11, 1), api.OK},
		{list(1000, -1000), 1000, list(0, 0), list(1000000, -1000000), api.OK},
		{list(1000, -1000), -1000, list(0, 0), list(-1000000, 1000000), api.OK},
		{list(1, -1), 1001, list(0, 0), nil, api.ErrRange}, {list(1, -1), -1001, list(0, 0), nil, api.ErrRange}, {list(1, -1), 1001, nil, nil, api.ErrRange}, {list(1, -1), 1 << 62, list(0, 0), nil, api.ErrRange}, {list(1, -1), -1 << 63, list(0, 0), nil, api.ErrRange},
		{list(1, -1), 1, list(most-1, -most+1), list(most, -most), api.OK},
		{list(1, -1), 1, list(most, 0), nil, api.ErrRange}, {list(1, -1), 1, list(0, -most), nil, api.ErrRange}, {list(1, -1), -1, list(0, most), nil, api.ErrRange}, {list(1, -1), -1, list(-most, 0), nil, api.ErrRange},
		{list(1, -1), 0, list(most, -most), list(most, -most), api.OK},
		{list(1, 0, -1), 1, list(0, most), list(1, most), api.OK},
		{list(1000, -1000), 1000, list(most-1000000, 0, most-999999), nil, api.ErrRange},
		{list(1000, -1000), 1000, append(make([]int, 4095), -most), nil, api.ErrRange},
	} {
		y, e := Inject(c.shape, c.amplitude, c.x)
		isList(t, fmt.Sprint(c.shape, c.amplitude), y, e, c.want, c.e)
	}
}

// P5.7: the examples; what is behind the last whole period does not count.
func TestTrack(t *testing.T) {
	most := 1 << 23
	for _, c := range []struct {
		shape, x []int
		want     api.Num
		e        api.Errno
	}{
		{list(1, -1), list(5, 1, 4, 2, 9), "3/2", api.OK}, {list(1, -1), list(8, -2, 7, -1, 12), "9/2", api.OK},
		{list(1, -1), list(5, 1, 4, 2), "3/2", api.OK}, {list(1, -1), list(5, 1, 4), "2", api.OK}, {list(1, -1), list(5, 1), "2", api.OK},
		{list(1, -1), list(1, 5), "-2", api.OK}, {list(1, -1), list(5, 5), "0", api.OK}, {list(3, 0, -3), list(1, 7, 0), "1/6", api.OK},
		{list(1, 1, -2), list(0, 0, 1, 5), "-1/3", api.OK},
		{list(1, -1), slices.Repeat(list(most, -most), 2048), "8388608", api.OK},
		{list(1000, -1000), slices.Repeat(list(-most, most), 2048), "-1048576/125", api.OK},
		{list(1, -1), list(5), "", api.ErrNone}, {list(1, -1), nil, "", api.ErrNone}, {list(1, 1, -2), list(5, 1), "", api.ErrNone}, {append(make([]int, 30), 7, -7), make([]int, 31), "", api.ErrNone}, {append(make([]int, 30), 7, -7), make([]int, 32), "0", api.OK},
	} {
		a, e := Track(c.shape, c.x)
		is(t, fmt.Sprint(c.shape, len(c.x)), a, e, c.want, c.e)
	}
}

// P5.7: as the definition says.
func TestTrackOfRandomSeries(t *testing.T) {
	r := rand.New(rand.NewSource(16))
	for range 500 {
		shape, x := randomLine(r, 12), randomSeries(r, 30)
		a, e := Track(shape, x)
		if len(x) < len(shape) {
			is(t, fmt.Sprint(shape, x), a, e, "", api.ErrNone)
		} else {
			is(t, fmt.Sprint(shape, x), a, e, modelNum(modelAmplitude(shape, x)), api.OK)
		}
	}
}

// P5.7: whether a line was kept, with the bounds in it.
func TestKept(t *testing.T) {
	shape, x := list(1, -1), list(8, -2, 7, -1, 12)
	big := api.Num(strings.Repeat("7", 200))
	for _, c := range []struct {
		injected, low, high api.Num
		want                bool
	}{
		{"3", "1", "2", true}, {"3", "3/2", "3/2", true}, {"3", "3/2", "2", true}, {"3", "1", "3/2", true}, {"3", "-1", "149/100", false}, {"3", "151/100", "2", false}, {"3", "2", "1", false}, {"3", "3/2", "1", false}, {"3", "2", "3/2", false},
		{"9/2", "1", "1", true}, {"-9/2", "-1", "-1", true}, {"-9/2", "1", "1", false}, {"-3", "-2", "-1", true}, {"-3", "1", "2", false}, {"1/2", "9", "9", true},
		{big, "0", "1/1000", true}, {"1/" + big, "1", big, false}, {"-1/" + big, "-" + big, "1", false}, {"1", "-" + big, big, true}, {"1", "-" + big + "/2", big + "/2", true}, {"1/" + big, big, big, false}, {"3", "1/" + big, "2", true}, {"-" + big, "-1/1000", "0", true},
	} {
		yes, e := Kept(shape, c.injected, x, c.low, c.high)
		is(t, fmt.Sprint(c), yes, e, c.want, api.OK)
	}
}

// P5.7: the errors of Kept, in their order.
func TestKeptErrors(t *testing.T) {
	digits := strings.Repeat("7", 201)
	long := api.Num(digits)
	for _, c := range []struct {
		injected, low, high api.Num
		want                api.Errno
	}{
		{"", "1", "2", api.ErrNum}, {"3", "", "2", api.ErrNum}, {"3", "1", "", api.ErrNum}, {"x", "1", "2", api.ErrNum}, {"2/4", "1", "2", api.ErrNum}, {"3", "+1", "2", api.ErrNum}, {"3", "1", "02", api.ErrNum}, {"3", "1.0", "2", api.ErrNum},
		{"i", long, "x", api.ErrNum}, {"0", "i", "x", api.ErrNum}, {"x", "i", long, api.ErrNum}, {"i", "i", api.Num(strings.Repeat("1", 2001)), api.ErrNum},
		{"i", "1", "2", api.ErrReal}, {"3", "1+i", "2", api.ErrReal}, {"3", "1", "-1/2i", api.ErrReal}, {"0", long, "i", api.ErrReal}, {long, "i", "2", api.ErrReal}, {"i", "1", long, api.ErrReal},
		{long, "1", "2", api.ErrRange}, {"3", long, "2", api.ErrRange}, {"3", "1", long, api.ErrRange}, {"-" + long, "1", "2", api.ErrRange}, {"1/" + long, "1", "2", api.ErrRange}, {"3", "-2/" + long, "2", api.ErrRange}, {"3", "1", long + "/2", api.ErrRange}, {"0", "1", long, api.ErrRange}, {"0", long, "2", api.ErrRange}, {"0", "1", "1/" + long, api.ErrRange},
		{"0", "1", "2", api.ErrZero}, {"0", "2", "1", api.ErrZero}, {"0", "0", "0", api.ErrZero},
	} {
		// Also where there is no whole period.
		for _, x := range [][]int{list(8, -2, 7), list(5), nil} {
			yes, e := Kept(list(1, -1), c.injected, x, c.low, c.high)
			is(t, fmt.Sprint(c), yes, e, false, c.want)
		}
	}
	for _, x := range [][]int{list(5), nil} {
		yes, e := Kept(list(1, -1), "3", x, "2", "1")
		is(t, "no whole period", yes, e, false, api.ErrNone)
	}
}

// P5.7: as the definition says.
func TestKeptOfRandomSeries(t *testing.T) {
	r := rand.New(rand.NewSource(17))
	kept := 0
	for range 1000 {
		shape, x := randomLine(r, 5), randomSeries(r, 10)
		if len(x) < len(shape) {
			continue
		}
		amplitude := modelAmplitude(shape, x)
		injected := big.NewRat(int64(1+r.Intn(5))*int64(pick(r, -1, 1)), int64(1+r.Intn(5)))
		ratio := new(big.Rat).Quo(amplitude, injected)
		near := func() *big.Rat {
			return new(big.Rat).Add(ratio, big.NewRat(int64(pick(r, -1, -1, 0, 1, 1)), 1000))
		}
		low, high := near(), near()
		want := low.Cmp(ratio) <= 0 && ratio.Cmp(high) <= 0
		yes, e := Kept(shape, modelNum(injected), x, modelNum(low), modelNum(high))
		is(t, fmt.Sprint(shape, x, injected, low, high), yes, e, want, api.OK)
		if want {
			kept++
		}
	}
	if kept < 200 || kept > 800 {
		t.Errorf("%d kept", kept)
	}
}

// P5.7: lines that are apart.
func TestApart(t *testing.T) {
	for _, c := range []struct {
		a, b []int
		want bool
	}{
		{list(1, -1), list(1, 0, -1, 0), true}, {list(1, -1), list(1, -1, 1, -1), false}, {list(1, -1), list(-1, 1), false}, {list(1, 0, -1, 0), list(0, 1, 0, -1), true}, {list(1, 1, -1, -1), list(1, -1, -1, 1), true}, {list(1, 1, -1, -1), list(1, 0, -1, 0), false},
		// Periods without a common divisor: the sum is that of the one times that of the other.
		{list(1, -1), list(1, 1, -2), true}, {append(make([]int, 29), 7, -7), append(make([]int, 30), 9, -9), true}, {list(1, 1, -2), list(3, -1, -1, -1), true},
		{list(1, -1), list(1, 0, 0, 0, 0, -1), false}, {list(1, -1), list(1, 0, 0, 0, -1, 0), true}, {list(1, 0, 0, -1), list(1, 0, -1, 0, 0, 0), true}, {list(1, 0, 0, -1), list(0, 0, 0, 0, 1, -1), false},
	} {
		yes, e := Apart(c.a, c.b)
		is(t, fmt.Sprint(c.a, c.b), yes, e, c.want, api.OK)
		yes, e = Apart(c.b, c.a)
		is(t, fmt.Sprint(c.b, c.a), yes, e, c.want, api.OK)
	}
}

// P5.7: as the definition says: over as many samples as both periods have in common, or any multiple of that.
func TestApartOfRandomLines(t *testing.T) {
	r := rand.New(rand.NewSource(18))
	apart := 0
	for range 2000 {
		a, b := randomLine(r, 8), randomLine(r, 8)
		sum := 0
		for i := range len(a) * len(b) {
			sum += a[i%len(a)] * b[i%len(b)]
		}
		yes, e := Apart(a, b)
		is(t, fmt.Sprint(a, b), yes, e, sum == 0, api.OK)
		if yes {
			apart++
		}
	}
	if apart < 200 || apart > 1800 {
		t.Errorf("%d apart", apart)
	}
}

// P5.12: what is injected is added to the amplitude, and can be taken away.
func TestInjectAndTrack(t *testing.T) {
	r := rand.New(rand.NewSource(19))
	for range 300 {
		shape, x, n := randomLine(r, 8), randomSeries(r, 30), r.Intn(2001)-1000
		for i := range x {
			x[i] /= 4
		}
		y := must[[]int](t)(Inject(shape, n, x))
		before, after := must[api.Num](t)(Track(shape, x)), must[api.Num](t)(Track(shape, y))
		sum, e := num.Add(before, api.Num(fmt.Sprint(n)))
		is(t, fmt.Sprint(shape, n, x), after, e, sum, api.OK)
		again, e := Inject(shape, -n, y)
		isList(t, "Inject", again, e, x, api.OK)
	}
}

// P5.12: a line that is apart has the same amplitude as before.
func TestInjectApart(t *testing.T) {
	r := rand.New(rand.NewSource(20))
	for done := 0; done < 100; {
		a, b := randomLine(r, 6), randomLine(r, 6)
		if !must[bool](t)(Apart(a, b)) {
			continue
		}
		x := randomSeries(r, 100)
		x = x[:len(x)/(len(a)*len(b))*len(a)*len(b)]
		for i := range x {
			x[i] /= 4
		}
		if len(x) == 0 {
			continue
		}
		y := must[[]int](t)(Inject(b, r.Intn(2001)-1000, x))
		got, e := Track(a, y)
		is(t, fmt.Sprint(a, b, x), got, e, must[api.Num](t)(Track(a, x)), api.OK)
		done++
	}
}
