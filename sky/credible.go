package sky

import (
	"cmp"
	"slices"

	"ringdown/api"
	"ringdown/num"
)

// credible returns the credible ones of some cells.
func credible(weights, cells []int, part api.Num) []int {
	all := 0
	for _, cell := range cells {
		all += weights[cell]
	}
	// The cells are in order, so a stable sort leaves those of the same weight so.
	taken := slices.Clone(cells)
	slices.SortStableFunc(taken, func(a, b int) int { return cmp.Compare(weights[b], weights[a]) })
	enough, sum := partOf(all, part), 0
	for i, cell := range taken {
		if sum >= enough {
			taken = taken[:i]
			break
		}
		sum += weights[cell]
	}
	slices.Sort(taken)
	return taken
}

// partOf returns the least whole number that is at least a part of another one.
func partOf(all int, part api.Num) int {
	// No step has an error: the numbers are real, few digits more than part is long, and at most all.
	below, _ := num.Of(-all, 1)
	below, _ = num.Mul(below, part)
	below, _ = num.Floor(below)
	n, _ := num.Int(below)
	return -n
}
