package record

import (
	"fmt"
	"math/rand"
	"slices"
	"testing"

	"ringdown/api"
)

func model(shift int, taps ...api.Tap) api.Model { return api.Model{Taps: taps, Shift: shift} }

func tap(low, high int) api.Tap { return api.Tap{Low: low, High: high} }

func band(low, high int) api.Band { return api.Band{Low: low, High: high} }

func randomModel(r *rand.Rand) api.Model {
	m := api.Model{Shift: r.Intn(21)}
	for range r.Intn(16) + 1 {
		most := 1 << r.Intn(21)
		a, b := r.Intn(2*most+1)-most, r.Intn(2*most+1)-most
		m.Taps = append(m.Taps, tap(min(a, b), max(a, b)))
	}
	return m
}

func randomSeries(r *rand.Rand, most int) []int {
	x := make([]int, r.Intn(most)+most/2)
	size := 1 << r.Intn(23)
	for i := range x {
		x[i] = r.Intn(2*size) - size
	}
	return x
}

// P5.6: which models are valid.
func TestCheckModel(t *testing.T) {
	most := 1 << 20
	for _, m := range []api.Model{
		model(0, tap(0, 0)), model(20, tap(0, 0)), model(1, tap(3, 4), tap(-1, 1)), model(0, tap(-most, most)), model(0, tap(most, most)), model(0, tap(-most, -most)), model(20, slices.Repeat([]api.Tap{tap(-1, 0)}, 16)...),
	} {
		hasError(t, fmt.Sprint(m), CheckModel(m), api.OK)
	}
	for _, m := range []api.Model{
		{}, model(0), model(-1, tap(0, 0)), model(21, tap(0, 0)), model(1<<62, tap(0, 0)), model(-1<<63, tap(0, 0)),
		model(0, tap(1, 0)), model(0, tap(most, -most)), model(0, tap(-most-1, 0)), model(0, tap(0, most+1)), model(0, tap(most+1, most+1)), model(0, tap(-most-1, -most-1)), model(0, tap(-1<<63, 1<<63-1)),
		model(0, tap(0, 0), tap(1, 0)), model(0, tap(1, 0), tap(0, 0)), model(0, tap(0, 0), tap(0, most+1), tap(0, 0)),
		model(20, slices.Repeat([]api.Tap{tap(-1, 0)}, 17)...), model(0, make([]api.Tap, 1000)...),
	} {
		hasError(t, fmt.Sprint(m), CheckModel(m), api.ErrModel)
		for _, x := range [][]int{list(1), list(1 << 24), nil} {
			bands, e := Strain(m, x)
			isList(t, "Strain", bands, e, nil, api.ErrModel)
		}
	}
}

func wrongSeries() [][]int {
	most := 1 << 23
	return [][]int{list(most + 1), list(-most - 1), list(0, 1, most+1), list(-most-1, 0, 1), list(1<<63 - 1), list(-1 << 63), make([]int, 4097), make([]int, 100000), append(make([]int, 4096), most+1)}
}

// P5.6: which lists are series.
func TestCheckSeries(t *testing.T) {
	most := 1 << 23
	for _, x := range [][]int{nil, {}, list(0), list(most), list(-most), list(most, -most, 0), make([]int, 4096), slices.Repeat(list(most), 4096)} {
		hasError(t, "a series", CheckSeries(x), api.OK)
	}
	for _, x := range wrongSeries() {
		hasError(t, "no series", CheckSeries(x), api.ErrSeries)
		bands, e := Strain(model(1, tap(0, 1)), x)
		isList(t, "Strain", bands, e, nil, api.ErrSeries)
	}
}

// P5.6: the example, and bands that are rounded down and up.
func TestStrain(t *testing.T) {
	most := 1 << 23
	for _, c := range []struct {
		m    api.Model
		x    []int
		want []api.Band
	}{
		{model(1, tap(3, 4), tap(-1, 1)), list(2, 5), []api.Band{band(3, 4), band(6, 11)}},
		{model(1, tap(3, 4), tap(-1, 1)), list(-2, -5), []api.Band{band(-4, -3), band(-11, -6)}},
		{model(0, tap(1, 1)), list(7, -7, 0), []api.Band{band(7, 7), band(-7, -7), band(0, 0)}},
		{model(1, tap(1, 1)), list(6, 7, -6, -7, 0, 1, -1), []api.Band{band(3, 3), band(3, 4), band(-3, -3), band(-4, -3), band(0, 0), band(0, 1), band(-1, 0)}},
		{model(20, tap(1, 1)), list(1, -1, 1<<20, 1<<20+1), []api.Band{band(0, 1), band(-1, 0), band(1, 1), band(1, 2)}},
		{model(0, tap(0, 0), tap(2, 3), tap(10, 10)), list(1, 2, 3, -4), []api.Band{band(0, 0), band(2, 3), band(14, 16), band(26, 29)}},
		{model(0, slices.Repeat([]api.Tap{tap(-1<<20, 1<<20)}, 16)...), list(most), []api.Band{band(-1<<43, 1<<43)}},
	} {
		bands, e := Strain(c.m, c.x)
		isList(t, fmt.Sprint(c.m, c.x), bands, e, c.want, api.OK)
	}
	// As great as they may be.
	m, x := model(0, slices.Repeat([]api.Tap{tap(-1<<20, 1<<20)}, 16)...), slices.Repeat(list(most, -most), 2048)
	bands := must[[]api.Band](t)(Strain(m, x))
	if len(bands) != 4096 || bands[4095] != band(-1<<47, 1<<47) || bands[14] != band(-15<<43, 15<<43) {
		t.Errorf("%v", bands)
	}
}

// P5.6: as the definition says.
func TestStrainOfRandomSeries(t *testing.T) {
	r := rand.New(rand.NewSource(14))
	for range 300 {
		m, x := randomModel(r), randomSeries(r, 30)
		var want []api.Band
		for i := range x {
			want = append(want, modelBand(m, x, i))
		}
		bands, e := Strain(m, x)
		isList(t, fmt.Sprint(m, x), bands, e, want, api.OK)
	}
}

// within returns a tap that is within another one.
func within(r *rand.Rand, t api.Tap) api.Tap {
	a, b := t.Low+r.Intn(t.High-t.Low+1), t.Low+r.Intn(t.High-t.Low+1)
	return tap(min(a, b), max(a, b))
}

// P5.11: bands hold what an instrument within them may give, models within models have bands within bands, and exact taps give narrow bands.
func TestBandsHold(t *testing.T) {
	r := rand.New(rand.NewSource(15))
	for range 300 {
		m, x := randomModel(r), randomSeries(r, 30)
		wide := must[[]api.Band](t)(Strain(m, x))
		inner, exact := model(m.Shift), model(m.Shift)
		for _, tap := range m.Taps {
			inner.Taps = append(inner.Taps, within(r, tap))
			one := tap.Low + r.Intn(tap.High-tap.Low+1)
			exact.Taps = append(exact.Taps, api.Tap{Low: one, High: one})
		}
		for _, n := range []api.Model{inner, exact} {
			for i, b := range must[[]api.Band](t)(Strain(n, x)) {
				if b.Low < wide[i].Low || b.High > wide[i].High || b.Low > b.High {
					t.Errorf("%v within %v: %v in %v", n, m, b, wide[i])
				}
			}
		}
		for i, b := range must[[]api.Band](t)(Strain(exact, x)) {
			sum := 0
			for k, tap := range exact.Taps[:min(len(m.Taps), i+1)] {
				sum += tap.Low * x[i-k]
			}
			down := (sum - (sum%(1<<m.Shift)+1<<m.Shift)%(1<<m.Shift)) / (1 << m.Shift)
			if b.High-b.Low > 1 || b.Low != down || down<<m.Shift != sum && b.High != down+1 {
				t.Errorf("%v of %v at %d: %v, not %d", exact, x, i, b, down)
			}
		}
	}
}
