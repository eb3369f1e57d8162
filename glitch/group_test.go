package glitch

import (
	"fmt"
	"math/rand"
	"slices"
	"testing"

	"ringdown/api"
)

// inverseOf returns the signal of so many samples that has these tiles and, but for the sum, no others.
func inverseOf(t *testing.T, samples int, tiles ...api.Tile) []int {
	c := make([]int, samples)
	for _, a := range tiles {
		c[samples>>a.Level+a.At] = a.D
	}
	return must[[]int](t)(Inverse(c))
}

// glitch is one with the numbers of its fields.
func glitch(from, to, many, energy, peak int) api.Glitch {
	return api.Glitch{From: from, To: to, Many: many, Energy: energy, Peak: peak}
}

// P6.2: the example, and which tiles touch.
func TestGlitches(t *testing.T) {
	const d = 256
	one := func(level int) int { return d * d * 16 >> level }
	for _, c := range []struct {
		tiles []api.Tile
		want  []api.Glitch
	}{
		{nil, nil},
		{[]api.Tile{tile(1, 3, d)}, []api.Glitch{glitch(6, 8, 1, one(1), 0)}},
		{[]api.Tile{tile(4, 0, d)}, []api.Glitch{glitch(0, 16, 1, one(4), 0)}},
		// Of the same level: beside each other, or not.
		{[]api.Tile{tile(1, 3, d), tile(1, 4, d)}, []api.Glitch{glitch(6, 10, 2, 2*one(1), 0)}},
		{[]api.Tile{tile(1, 3, d), tile(1, 5, d)}, []api.Glitch{glitch(6, 8, 1, one(1), 0), glitch(10, 12, 1, one(1), 1)}},
		{[]api.Tile{tile(1, 3, d), tile(1, 4, d), tile(1, 5, d)}, []api.Glitch{glitch(6, 12, 3, 3*one(1), 0)}},
		{[]api.Tile{tile(2, 1, d), tile(2, 2, d)}, []api.Glitch{glitch(4, 12, 2, 2*one(2), 0)}},
		{[]api.Tile{tile(3, 0, d), tile(3, 1, d)}, []api.Glitch{glitch(0, 16, 2, 2*one(3), 0)}},
		// Of the next level: inside, beside at both ends, or not.
		{[]api.Tile{tile(1, 2, d), tile(2, 1, d)}, []api.Glitch{glitch(4, 8, 2, one(1)+one(2), 0)}},
		{[]api.Tile{tile(1, 3, d), tile(2, 1, d)}, []api.Glitch{glitch(4, 8, 2, one(1)+one(2), 0)}},
		{[]api.Tile{tile(1, 1, d), tile(2, 1, d)}, []api.Glitch{glitch(2, 8, 2, one(1)+one(2), 0)}},
		{[]api.Tile{tile(1, 4, d), tile(2, 1, d)}, []api.Glitch{glitch(4, 10, 2, one(1)+one(2), 0)}},
		{[]api.Tile{tile(1, 0, d), tile(2, 1, d)}, []api.Glitch{glitch(0, 2, 1, one(1), 0), glitch(4, 8, 1, one(2), 1)}},
		{[]api.Tile{tile(1, 5, d), tile(2, 1, d)}, []api.Glitch{glitch(4, 8, 1, one(2), 1), glitch(10, 12, 1, one(1), 0)}},
		{[]api.Tile{tile(3, 0, d), tile(4, 0, d)}, []api.Glitch{glitch(0, 16, 2, one(3)+one(4), 0)}},
		// Two levels apart: not, even where one covers the other; unless there is one between.
		{[]api.Tile{tile(1, 1, d), tile(3, 0, d)}, []api.Glitch{glitch(0, 8, 1, one(3), 1), glitch(2, 4, 1, one(1), 0)}},
		{[]api.Tile{tile(1, 0, d), tile(3, 0, d)}, []api.Glitch{glitch(0, 2, 1, one(1), 0), glitch(0, 8, 1, one(3), 1)}},
		{[]api.Tile{tile(1, 0, d), tile(2, 0, d), tile(3, 0, d)}, []api.Glitch{glitch(0, 8, 3, one(1)+one(2)+one(3), 0)}},
		{[]api.Tile{tile(1, 1, d), tile(2, 1, d), tile(3, 1, d)}, []api.Glitch{glitch(2, 16, 3, one(1)+one(2)+one(3), 0)}},
		{[]api.Tile{tile(1, 0, d), tile(3, 0, d), tile(4, 0, d)}, []api.Glitch{glitch(0, 2, 1, one(1), 0), glitch(0, 16, 2, one(3)+one(4), 1)}},
		// Three with the same beginning: by their first tiles.
		{[]api.Tile{tile(1, 0, d), tile(1, 2, d), tile(3, 0, d)}, []api.Glitch{glitch(0, 2, 1, one(1), 0), glitch(0, 8, 1, one(3), 2), glitch(4, 6, 1, one(1), 1)}},
		// The first tile of a glitch need not be where it begins.
		{[]api.Tile{tile(1, 1, d), tile(1, 6, d), tile(2, 2, d), tile(3, 0, d)}, []api.Glitch{glitch(0, 14, 3, one(1)+one(2)+one(3), 1), glitch(2, 4, 1, one(1), 0)}},
		{[]api.Tile{tile(1, 0, d), tile(1, 4, d), tile(2, 2, d), tile(3, 0, d)}, []api.Glitch{glitch(0, 2, 1, one(1), 0), glitch(0, 12, 3, one(1)+one(2)+one(3), 1)}},
		// The greatest energy is the peak, the first one of several.
		{[]api.Tile{tile(1, 3, d), tile(1, 4, -2*d), tile(1, 5, 2*d)}, []api.Glitch{glitch(6, 12, 3, 9*one(1), 1)}},
		{[]api.Tile{tile(1, 0, 4*d), tile(1, 6, d), tile(2, 3, -2*d)}, []api.Glitch{glitch(0, 2, 1, 16*one(1), 0), glitch(12, 16, 2, one(1)+4*one(2), 2)}},
		{[]api.Tile{tile(2, 3, d), tile(3, 1, 2*d), tile(4, 0, -2*d)}, []api.Glitch{glitch(0, 16, 3, one(2)+4*one(3)+4*one(4), 1)}},
	} {
		x := inverseOf(t, 16, c.tiles...)
		g, e := Glitches(x, 1)
		isList(t, fmt.Sprint(c.tiles), g, e, c.want, api.OK)
	}
}

// P6.2: signals with no tile, with all tiles, and the loudest one.
func TestFewAndManyGlitches(t *testing.T) {
	for _, c := range []struct {
		x         []int
		threshold int
		want      []api.Glitch
	}{
		{example(), 8, []api.Glitch{glitch(0, 4, 2, 24, 1)}}, {example(), 9, []api.Glitch{glitch(0, 4, 1, 16, 0)}}, {example(), 17, nil}, {example(), 0, []api.Glitch{glitch(0, 4, 3, 24, 2)}},
		{list(5), 0, nil}, {list(1, 1), 0, []api.Glitch{glitch(0, 2, 1, 0, 0)}}, {list(1, 1), 1, nil},
		{make([]int, 1024), 0, []api.Glitch{glitch(0, 1024, 1023, 0, 0)}},
		{slices.Repeat(list(1<<20, -1<<20), 512), 1 << 51, []api.Glitch{glitch(0, 1024, 512, 1<<60, 0)}},
		{slices.Concat(slices.Repeat(list(-1<<20), 512), slices.Repeat(list(1<<20), 512)), 1 << 60, []api.Glitch{glitch(0, 1024, 1, 1<<60, 0)}},
	} {
		g, e := Glitches(c.x, c.threshold)
		isList(t, fmt.Sprint(c.x[:min(8, len(c.x))], c.threshold), g, e, c.want, api.OK)
	}
	// As many as there can be.
	x := slices.Repeat(list(1, -1, 0, 0), 256)
	var want []api.Glitch
	for i := range 256 {
		want = append(want, glitch(4*i, 4*i+2, 1, 4*512, i))
	}
	g, e := Glitches(x, 1)
	isList(t, "many", g, e, want, api.OK)
}

// P6.2, P6.8: as the definition says; each loud tile is in one glitch.
func TestGlitchesOfRandomSignals(t *testing.T) {
	r := rand.New(rand.NewSource(7))
	many := map[int]int{}
	for range 1500 {
		x := randomSignal(r, 6)
		threshold := randomThreshold(r, x)
		g, e := Glitches(x, threshold)
		isList(t, fmt.Sprint(x, threshold), g, e, modelGlitches(x, threshold), api.OK)
		many[min(len(g), 4)]++
		loud := must[[]api.Tile](t)(Loud(x, threshold))
		for _, a := range g {
			for range a.Many {
				loud = loud[1:]
			}
		}
		is(t, "tiles of no glitch", len(loud), api.OK, 0, api.OK)
	}
	for n := range 5 {
		if many[n] < 20 {
			t.Errorf("%d signals with %d glitches", many[n], n)
		}
	}
}

// P6.2: tiles that belong together in all combinations of few.
func TestGlitchesOfAllTiles(t *testing.T) {
	for chosen := range 1 << 7 {
		var l []api.Tile
		for i, a := range modelTiles(make([]int, 8)) {
			if chosen>>i&1 == 1 {
				l = append(l, tile(a.Level, a.At, 8<<a.Level))
			}
		}
		x := inverseOf(t, 8, l...)
		g, e := Glitches(x, 1)
		isList(t, fmt.Sprint(l), g, e, modelGlitches(x, 1), api.OK)
	}
}
