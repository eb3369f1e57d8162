package glitch

import (
	"fmt"
	"math/big"
	"math/rand"
	"slices"
	"testing"

	"ringdown/api"
)

// P6.1, P6.2: the examples, and the least and the greatest signals.
func TestTransform(t *testing.T) {
	most := 1 << 20
	for _, c := range []struct {
		x, want []int
		energy  int
	}{
		{example(), list(16, -4, 2, 0), 280}, {list(0), list(0), 0}, {list(7), list(7), 49}, {list(-most), list(-most), 1 << 40}, {list(1, 2), list(3, -1), 10}, {list(-most, most), list(0, -2*most), 1 << 42}, {list(1, 0, 0, 0, 0, 0, 0, 0), list(1, 1, 1, 0, 1, 0, 0, 0), 8}, {list(0, 0, 0, 0, 0, 1, 0, 2), list(3, -3, 0, -1, 0, 0, -1, -2), 40}, {list(0, 0, 0, 0, 0, 0, 0, 0), list(0, 0, 0, 0, 0, 0, 0, 0), 0},
		{slices.Repeat(list(most), 1024), append(list(1<<30), make([]int, 1023)...), 1 << 60},
		{slices.Repeat(list(-most), 1024), append(list(-1<<30), make([]int, 1023)...), 1 << 60},
		{slices.Concat(slices.Repeat(list(-most), 512), slices.Repeat(list(most), 512)), append(list(0, -1<<30), make([]int, 1022)...), 1 << 60},
	} {
		what := fmt.Sprint(c.x[:min(8, len(c.x))])
		got, e := Transform(c.x)
		isList(t, what, got, e, c.want, api.OK)
		x, e := Inverse(c.want)
		isList(t, what, x, e, c.x, api.OK)
		energy, e := Energy(c.x)
		is(t, what, energy, e, c.energy, api.OK)
	}
}

// P6.1: as the definition says.
func TestTransformOfRandomSignals(t *testing.T) {
	r := rand.New(rand.NewSource(1))
	for range 500 {
		x := randomSignal(r, 10)
		c, e := Transform(x)
		isList(t, "Transform", c, e, modelCoefficients(x), api.OK)
		energy, e := Energy(x)
		is(t, "Energy", big.NewInt(int64(energy)).String(), e, modelEnergy(x).String(), api.OK)
	}
}

// P6.1: coefficients of no signal.
func TestInverseErrors(t *testing.T) {
	most := 1 << 20
	wrong := lists(
		nil, list(), list(1, 0), list(0, 1), list(2, -1), list(1, 2), list(0, 0, 0), list(16, -4, 2), list(16, -4, 1, 0), list(16, -4, 2, 1), list(16, -2, 2, 0), list(15, -4, 2, 0), list(16, -4, 2, 0, 0), list(1, 1, 1, 0, 1, 0, 0, 1),
		list(most+1), list(-most-1), list(2*most, 2), list(2*most, -2), list(-2*most, 2), list(0, 2*most+2), list(2*most+2, 0), list(4*most, 0, 0, 2), list(1<<30+2, 0), list(0, -1<<30-2),
		make([]int, 3), make([]int, 1023), make([]int, 1025), make([]int, 2048), make([]int, 100000),
		append(list(1<<30, 0), slices.Repeat(list(2), 1022)...), append(make([]int, 1023), 1), append(make([]int, 1022), 1, 0), append(list(1<<30+1024), make([]int, 1023)...), append(list(0, 1<<30+1024), make([]int, 1022)...),
	)
	for _, n := range list(1<<31, 1<<32, 1<<33, 1<<62, 1<<63-1, -1<<62, -1<<63) {
		wrong = append(wrong, list(n), list(n, n), list(n, -n), list(-n, n), list(0, n), list(n, 0), list(n, n, n, n), list(0, 0, 0, n), list(n, n, 2*n, 0), append(list(n), make([]int, 1023)...), append(make([]int, 1023), n))
	}
	for _, c := range wrong {
		x, e := Inverse(c)
		isList(t, fmt.Sprint(c[:min(4, len(c))]), x, e, nil, api.ErrTiles)
	}
}

// P6.1: lists of few small numbers are coefficients of a signal only if that is found among all such.
func TestInverseOfAllSmallLists(t *testing.T) {
	signals := map[[4]int][4]int{}
	each := func(most int, f func(n [4]int)) {
		for i := range (2*most + 1) * (2*most + 1) * (2*most + 1) * (2*most + 1) {
			var n [4]int
			for k := range n {
				n[k] = i%(2*most+1) - most
				i /= 2*most + 1
			}
			f(n)
		}
	}
	each(6, func(n [4]int) { signals[[4]int(modelCoefficients(n[:]))] = n })
	found := 0
	each(4, func(n [4]int) {
		want, ok := signals[n]
		x, e := Inverse(n[:])
		if ok {
			found++
			isList(t, fmt.Sprint(n), x, e, want[:], api.OK)
		} else {
			isList(t, fmt.Sprint(n), x, e, nil, api.ErrTiles)
		}
	})
	if found < 100 {
		t.Errorf("%d found", found)
	}
}

// P6.7: both directions, and the energies of all tiles.
func TestInverseOfTransform(t *testing.T) {
	r := rand.New(rand.NewSource(2))
	for range 500 {
		x := randomSignal(r, 10)
		c := must[[]int](t)(Transform(x))
		again, e := Inverse(c)
		isList(t, "Inverse", again, e, x, api.OK)
		sum := c[0] * c[0]
		for _, a := range must[[]api.Tile](t)(Tiles(x)) {
			sum += a.D * a.D * len(x) >> a.Level
		}
		is(t, "energies", sum, api.OK, must[int](t)(Energy(x)), api.OK)
		// Small changes give coefficients of another signal, or of none.
		c[r.Intn(len(c))] += randomNumber(r, 2)
		if y, e := Inverse(c); e == api.OK {
			isList(t, "Transform", must[[]int](t)(Transform(y)), e, c, api.OK)
		} else {
			isList(t, "Inverse", y, e, nil, api.ErrTiles)
		}
	}
}

// P6.2: the example, and signals without tiles, with one, and with the most.
func TestTiles(t *testing.T) {
	for _, c := range []struct {
		x    []int
		want []api.Tile
	}{
		{example(), exampleTiles()}, {list(5), nil}, {list(1, 3), []api.Tile{tile(1, 0, -2)}},
		{list(0, 0, 0, 0, 0, 1, 0, 2), []api.Tile{tile(1, 0, 0), tile(1, 1, 0), tile(1, 2, -1), tile(1, 3, -2), tile(2, 0, 0), tile(2, 1, -1), tile(3, 0, -3)}},
	} {
		l, e := Tiles(c.x)
		isList(t, fmt.Sprint(c.x), l, e, c.want, api.OK)
	}
	l, e := Tiles(make([]int, 1024))
	isList(t, "the most", l, e, modelTiles(make([]int, 1024)), api.OK)
	r := rand.New(rand.NewSource(3))
	for range 200 {
		x := randomSignal(r, 8)
		l, e := Tiles(x)
		isList(t, fmt.Sprint(x), l, e, modelTiles(x), api.OK)
	}
}

// P6.2: the examples, and thresholds that are met exactly.
func TestLoud(t *testing.T) {
	most := 1 << 20
	loudest := slices.Concat(slices.Repeat(list(-most), 512), slices.Repeat(list(most), 512))
	for _, c := range []struct {
		x         []int
		threshold int
		want      []api.Tile
	}{
		{example(), 9, []api.Tile{tile(2, 0, -4)}}, {example(), 8, []api.Tile{tile(1, 0, 2), tile(2, 0, -4)}}, {example(), 1, []api.Tile{tile(1, 0, 2), tile(2, 0, -4)}}, {example(), 0, exampleTiles()}, {example(), 16, []api.Tile{tile(2, 0, -4)}}, {example(), 17, nil},
		{list(5), 0, nil}, {list(5), 1 << 60, nil}, {loudest, 1 << 60, []api.Tile{tile(10, 0, -1<<30)}}, {loudest, 1, []api.Tile{tile(10, 0, -1<<30)}},
		{slices.Repeat(list(most, -most), 512), 1 << 51, modelTiles(slices.Repeat(list(most, -most), 512))[:512]}, {slices.Repeat(list(most, -most), 512), 1<<51 + 1, nil},
	} {
		l, e := Loud(c.x, c.threshold)
		isList(t, fmt.Sprint(c.x[:min(8, len(c.x))], c.threshold), l, e, c.want, api.OK)
	}
}

// P6.2: as the definition says.
func TestLoudOfRandomSignals(t *testing.T) {
	r := rand.New(rand.NewSource(4))
	for range 500 {
		x := randomSignal(r, 7)
		threshold := randomThreshold(r, x)
		l, e := Loud(x, threshold)
		isList(t, fmt.Sprint(x, threshold), l, e, modelLoud(x, threshold), api.OK)
	}
}

// P6.8: a greater threshold never adds a loud tile.
func TestGreaterThreshold(t *testing.T) {
	r := rand.New(rand.NewSource(5))
	for range 200 {
		x := randomSignal(r, 6)
		low, high := randomThreshold(r, x), randomThreshold(r, x)
		low, high = min(low, high), max(low, high)
		l := must[[]api.Tile](t)(Loud(x, low))
		for _, a := range must[[]api.Tile](t)(Loud(x, high)) {
			if !slices.Contains(l, a) {
				t.Errorf("%v: %v is loud at %d, not at %d", x, a, high, low)
			}
		}
	}
}

// P6.3: the example, and halves that count negatively.
func TestPart(t *testing.T) {
	all := exampleTiles()
	eight := list(0, 0, 0, 0, 0, 1, 0, 2)
	for _, c := range []struct {
		x     []int
		tiles []api.Tile
		want  []int
	}{
		{example(), all[:1], list(4, -4, 0, 0)}, {example(), all[1:2], list(0, 0, 0, 0)}, {example(), all[2:], list(-4, -4, 4, 4)}, {example(), []api.Tile{all[0], all[2]}, list(0, -8, 4, 4)}, {example(), all[:2], list(4, -4, 0, 0)}, {example(), all, list(0, -8, 4, 4)}, {example(), nil, list(0, 0, 0, 0)},
		{list(5), nil, list(0)}, {list(1, 3), []api.Tile{tile(1, 0, -2)}, list(-2, 2)},
		{eight, []api.Tile{tile(1, 3, -2), tile(2, 1, -1)}, list(0, 0, 0, 0, -2, -2, 2-8, 2+8)}, {eight, []api.Tile{tile(3, 0, -3)}, list(-3, -3, -3, -3, 3, 3, 3, 3)},
	} {
		p, e := Part(c.x, c.tiles)
		isList(t, fmt.Sprint(c.x, c.tiles), p, e, c.want, api.OK)
	}
}

// P6.3: tiles that are not strictly increasing, or none of the signal.
func TestPartErrors(t *testing.T) {
	a, b, c := tile(1, 0, 2), tile(1, 1, 0), tile(2, 0, -4)
	for _, l := range [][]api.Tile{
		{b, a}, {c, a}, {c, b}, {a, a}, {c, c}, {a, b, b}, {a, c, b}, {b, a, c}, {a, b, c, c}, {a, b, c, a},
		{{}}, {tile(0, 0, 4)}, {tile(1, 0, -2)}, {tile(1, 0, 3)}, {tile(1, 1, 2)}, {tile(2, 0, 4)}, {tile(2, 0, 16)}, {tile(1, 2, 0)}, {tile(1, -1, 0)}, {tile(2, 1, -4)}, {tile(2, -1, -4)}, {tile(3, 0, -4)}, {tile(-1, 0, 4)}, {tile(11, 0, 0)}, {tile(64, 0, 0)}, {tile(1<<62, 0, 2)}, {tile(-1<<63, -1<<63, -1<<63)}, {tile(1, 1<<62, 0)}, {tile(1, 0, 1<<63-1)},
		{a, b, tile(2, 0, 4)}, {a, b, c, {}}, {{}, a, b, c}, {a, {}, b, c}, {a, tile(1, 1, 1), c}, {a, b, c, tile(3, 0, 0)}, make([]api.Tile, 2000),
	} {
		p, e := Part(example(), l)
		isList(t, fmt.Sprint(l), p, e, nil, api.ErrTiles)
	}
	p, e := Part(list(5), []api.Tile{tile(1, 0, 0)})
	isList(t, "without tiles", p, e, nil, api.ErrTiles)
}

// P6.3, P6.9: as the definition says; parts add up.
func TestPartOfRandomSignals(t *testing.T) {
	r := rand.New(rand.NewSource(6))
	for range 300 {
		x := randomSignal(r, 6)
		all := must[[]api.Tile](t)(Tiles(x))
		some := slices.DeleteFunc(slices.Clone(all), func(api.Tile) bool { return r.Intn(3) == 0 })
		others := slices.DeleteFunc(slices.Clone(all), func(a api.Tile) bool { return slices.Contains(some, a) })
		p, e := Part(x, some)
		isList(t, fmt.Sprint(x, some), p, e, modelPart(x, some), api.OK)
		q, whole := must[[]int](t)(Part(x, others)), must[[]int](t)(Part(x, all))
		first := must[[]int](t)(Transform(x))[0]
		for i := range x {
			is(t, "both parts", p[i]+q[i], api.OK, whole[i], api.OK)
			is(t, "all tiles", whole[i], api.OK, len(x)*x[i]-first, api.OK)
		}
	}
}

// P6.9: with the greatest numbers.
func TestGreatestPart(t *testing.T) {
	most := 1 << 20
	for _, x := range lists(append(make([]int, 1023), most), append(list(-most), slices.Repeat(list(most), 1023)...), slices.Repeat(list(most, -most), 512)) {
		whole := must[[]int](t)(Part(x, modelTiles(x)))
		for i := range x {
			is(t, "all tiles", whole[i], api.OK, 1024*x[i]-modelSum(x), api.OK)
		}
	}
}
