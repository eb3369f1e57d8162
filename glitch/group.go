package glitch

import (
	"cmp"
	"slices"

	"ringdown/api"
)

// place says which tile of a signal is meant.
type place struct{ level, at int }

// groups has, for each of some tiles, the index of an earlier one of its group, or its own if it is the first one.
type groups []int

// apart returns groups of one tile each.
func apart(tiles int) groups {
	g := make(groups, tiles)
	for i := range g {
		g[i] = i
	}
	return g
}

// first returns the index of the first tile of a tile's group.
func (g groups) first(i int) int {
	for g[i] != i {
		// The way is shortened for the next time.
		g[i] = g[g[i]]
		i = g[i]
	}
	return i
}

// join makes one group of those of two tiles.
func (g groups) join(i, k int) {
	a, b := g.first(i), g.first(k)
	g[max(a, b)] = min(a, b)
}

// meet calls a function with the indices of each two tiles that touch.
func meet(list []api.Tile, touch func(i, k int)) {
	found := map[place]int{}
	for i, t := range list {
		for _, p := range placesBefore(t) {
			if k, ok := found[p]; ok {
				touch(k, i)
			}
		}
		found[place{t.Level, t.At}] = i
	}
}

// placesBefore returns where there may be tiles that touch t and come before it in the order of tiles.
func placesBefore(t api.Tile) []place {
	list := []place{{t.Level, t.At - 1}}
	for at := 2*t.At - 1; at <= 2*t.At+2; at++ {
		list = append(list, place{t.Level - 1, at})
	}
	return list
}

// glitches returns those of all loud tiles of a signal of so many samples.
func glitches(tiles []api.Tile, samples int) []api.Glitch {
	g := apart(len(tiles))
	meet(tiles, g.join)
	var list []api.Glitch
	indices := map[int]int{}
	for i, t := range tiles {
		first := g.first(i)
		if first == i {
			from, to := covered(t)
			indices[i] = len(list)
			list = append(list, api.Glitch{From: from, To: to, Peak: i})
		}
		found := &list[indices[first]]
		if energy(t, samples) > energy(tiles[found.Peak], samples) {
			found.Peak = i
		}
		extend(found, t, samples)
	}
	// Where two begin with the same sample, that with the earlier first tile is the earlier one already.
	slices.SortStableFunc(list, func(a, b api.Glitch) int { return cmp.Compare(a.From, b.From) })
	return list
}

// extend adds a tile to a glitch.
func extend(g *api.Glitch, t api.Tile, samples int) {
	from, to := covered(t)
	g.From, g.To = min(g.From, from), max(g.To, to)
	g.Many++
	g.Energy += energy(t, samples)
}
