package glitch

import (
	"cmp"
	"math/big"
	"slices"

	"ringdown/api"
)

// What follows is the chapter's definitions again, with samples, times and fractions one by one, to compare with.

func modelSum(x []int) int {
	sum := 0
	for _, n := range x {
		sum += n
	}
	return sum
}

// modelTiles returns all tiles, each with the difference of the sums of its halves.
func modelTiles(x []int) []api.Tile {
	var l []api.Tile
	for level := 1; 1<<level <= len(x); level++ {
		for at := range len(x) >> level {
			samples := x[at<<level : (at+1)<<level]
			half := len(samples) / 2
			l = append(l, tile(level, at, modelSum(samples[:half])-modelSum(samples[half:])))
		}
	}
	return l
}

// modelCoefficients puts the tiles behind the sum, by decreasing level.
func modelCoefficients(x []int) []int {
	l := modelTiles(x)
	slices.SortStableFunc(l, func(a, b api.Tile) int { return cmp.Compare(b.Level, a.Level) })
	c := list(modelSum(x))
	for _, t := range l {
		c = append(c, t.D)
	}
	return c
}

func modelPower(n int) *big.Int { return new(big.Int).Lsh(big.NewInt(1), uint(n)) }

func modelSquare(n int) *big.Int { return new(big.Int).Mul(big.NewInt(int64(n)), big.NewInt(int64(n))) }

func modelTileEnergy(x []int, t api.Tile) *big.Int {
	scale := big.NewInt(int64(len(x)))
	return scale.Mul(scale, modelSquare(t.D)).Quo(scale, modelPower(t.Level))
}

func modelEnergy(x []int) *big.Int {
	sum := new(big.Int)
	for _, n := range x {
		sum.Add(sum, modelSquare(n))
	}
	return sum.Mul(sum, big.NewInt(int64(len(x))))
}

func modelLoud(x []int, threshold int) []api.Tile {
	return slices.DeleteFunc(modelTiles(x), func(t api.Tile) bool {
		return modelTileEnergy(x, t).Cmp(big.NewInt(int64(threshold))) < 0
	})
}

// modelSamples are those that a tile covers.
func modelSamples(t api.Tile) []int {
	var l []int
	for i := range 1 << t.Level {
		l = append(l, t.At*(1<<t.Level)+i)
	}
	return l
}

func modelTouch(a, b api.Tile) bool {
	if a.Level-b.Level > 1 || b.Level-a.Level > 1 {
		return false
	}
	of := modelSamples(b)
	for _, s := range modelSamples(a) {
		if slices.Contains(of, s) || slices.Contains(of, s-1) || slices.Contains(of, s+1) {
			return true
		}
	}
	return false
}

// modelGroups returns the indices of tiles that belong together, by the first one.
func modelGroups(l []api.Tile) [][]int {
	var groups [][]int
	done := make([]bool, len(l))
	for i := range l {
		if done[i] {
			continue
		}
		done[i] = true
		group := list(i)
		for k := 0; k < len(group); k++ {
			for m := range l {
				if !done[m] && modelTouch(l[group[k]], l[m]) {
					done[m] = true
					group = append(group, m)
				}
			}
		}
		slices.Sort(group)
		groups = append(groups, group)
	}
	return groups
}

func modelGlitches(x []int, threshold int) []api.Glitch {
	l := modelLoud(x, threshold)
	var glitches []api.Glitch
	for _, group := range modelGroups(l) {
		g := api.Glitch{Many: len(group), Peak: group[0]}
		var samples []int
		for _, i := range group {
			samples = append(samples, modelSamples(l[i])...)
			e := modelTileEnergy(x, l[i])
			g.Energy += int(e.Int64())
			if e.Cmp(modelTileEnergy(x, l[g.Peak])) > 0 {
				g.Peak = i
			}
		}
		g.From, g.To = slices.Min(samples), slices.Max(samples)+1
		glitches = append(glitches, g)
	}
	slices.SortStableFunc(glitches, func(a, b api.Glitch) int { return cmp.Compare(a.From, b.From) })
	return glitches
}

func modelPart(x []int, l []api.Tile) []int {
	p := make([]int, len(x))
	for s := range p {
		for _, t := range l {
			switch i := slices.Index(modelSamples(t), s); {
			case i >= 1<<t.Level/2:
				p[s] -= t.D * len(x) / (1 << t.Level)
			case i >= 0:
				p[s] += t.D * len(x) / (1 << t.Level)
			}
		}
	}
	return p
}

func fraction(top, bottom int) *big.Rat { return big.NewRat(int64(top), int64(bottom)) }

func numOf(x *big.Rat) api.Num { return api.Num(x.RatString()) }

func ratOf(a api.Num) *big.Rat {
	x, ok := new(big.Rat).SetString(string(a))
	if !ok {
		panic("no number: " + a)
	}
	return x
}

func modelVector(x []int) []*big.Rat {
	var v []*big.Rat
	for _, n := range x {
		v = append(v, fraction(n, 1))
	}
	return v
}

func modelProduct(a, b []*big.Rat) *big.Rat {
	sum := new(big.Rat)
	for t := range a {
		sum.Add(sum, new(big.Rat).Mul(a[t], b[t]))
	}
	return sum
}

// modelLess returns a vector less another one, times a factor.
func modelLess(a []*big.Rat, factor *big.Rat, b []*big.Rat) []*big.Rat {
	var l []*big.Rat
	for t := range a {
		l = append(l, new(big.Rat).Sub(a[t], new(big.Rat).Mul(factor, b[t])))
	}
	return l
}

func modelClean(y []int, witnesses [][]int, fit []api.Num) []*big.Rat {
	left := modelVector(y)
	for i, w := range witnesses {
		left = modelLess(left, ratOf(fit[i]), modelVector(w))
	}
	return left
}

func modelRest(y []int, witnesses [][]int, fit []api.Num) api.Num {
	left := modelClean(y, witnesses, fit)
	return numOf(modelProduct(left, left))
}

// modelFit fits each witness alone, without what the other ones have of it.
func modelFit(y []int, witnesses [][]int) (fit []api.Num, ok bool) {
	for i := range witnesses {
		own := modelVector(witnesses[i])
		for k := range witnesses {
			if k != i {
				own = modelWithout(own, modelOther(witnesses, i, k))
			}
		}
		square := modelProduct(own, own)
		if square.Sign() == 0 {
			return nil, false
		}
		fit = append(fit, numOf(square.Quo(modelProduct(modelVector(y), own), square)))
	}
	return fit, true
}

// modelOther returns the witness k without what the ones before it (but i) have of it.
func modelOther(witnesses [][]int, i, k int) []*big.Rat {
	own := modelVector(witnesses[k])
	for m := range k {
		if m != i {
			own = modelWithout(own, modelOther(witnesses, i, m))
		}
	}
	return own
}

// modelWithout returns a vector without what it has of another one.
func modelWithout(a, b []*big.Rat) []*big.Rat {
	square := modelProduct(b, b)
	if square.Sign() == 0 {
		return a
	}
	return modelLess(a, new(big.Rat).Quo(modelProduct(a, b), square), b)
}

func modelHolds(v api.Veto, time int) bool {
	for _, s := range v.Segments {
		if time >= s.From && time < s.To {
			return true
		}
	}
	return false
}

func modelHeld(v api.Veto, span int) []api.Segment {
	var l []api.Segment
	for t := range span {
		switch last := len(l) - 1; {
		case !modelHolds(v, t):
		case t > 0 && modelHolds(v, t-1):
			l[last].To++
		default:
			l = append(l, api.Segment{From: t, To: t + 1})
		}
	}
	return l
}

func modelDead(l []api.Veto, span int) int { return span - len(modelPassed(l, upTo(span))) }

func modelPassed(l []api.Veto, times []int) []int {
	var passed []int
	for _, t := range times {
		if !slices.ContainsFunc(l, func(v api.Veto) bool { return modelHolds(v, t) }) {
			passed = append(passed, t)
		}
	}
	return passed
}

// modelRank compares quotients: a greater one first, then a greater number, then an earlier veto.
func modelRank(l []api.Veto, times []int, span int) []api.Ranked {
	var ranking []api.Ranked
	var before []api.Veto
	for {
		var best []api.Ranked
		for i, v := range l {
			with := append(slices.Clone(before), v)
			r := api.Ranked{Veto: i}
			r.Caught = len(modelPassed(before, times)) - len(modelPassed(with, times))
			r.Dead = modelDead(with, span) - modelDead(before, span)
			if r.Caught > 0 {
				best = append(best, r)
			}
		}
		if len(best) == 0 {
			return ranking
		}
		slices.SortStableFunc(best, func(a, b api.Ranked) int {
			return cmp.Or(modelCompare(b, a), cmp.Compare(b.Caught, a.Caught))
		})
		ranking = append(ranking, best[0])
		before = append(before, l[best[0].Veto])
	}
}

// modelCompare compares quotients, of which those by 0 are the greatest.
func modelCompare(a, b api.Ranked) int {
	switch {
	case a.Dead == 0 && b.Dead == 0:
		return 0
	case a.Dead == 0:
		return 1
	case b.Dead == 0:
		return -1
	}
	return fraction(a.Caught, a.Dead).Cmp(fraction(b.Caught, b.Dead))
}
