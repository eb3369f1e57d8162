package bank

import (
	"cmp"

	"ringdown/api"
)

// build returns the indices of the points that are put into a bank; ok is false if they are too many.
func build(points []*wave, least quotient) (put []int, ok bool) {
	reached := reachedBy(points, least)
	missed := map[int]bool{}
	for i := range points {
		missed[i] = true
	}
putting:
	for {
		switch {
		case len(missed) == 0:
			break putting
		case len(put) == api.MaxBank:
			return nil, false
		}
		i := mostUseful(reached, missed)
		put = append(put, i)
		for _, k := range reached[i] {
			delete(missed, k)
		}
	}
	return put, true
}

// reachedBy returns for each point the indices of those for which it reaches the least match.
func reachedBy(points []*wave, least quotient) [][]int {
	reached := make([][]int, len(points))
	for i, b := range points {
		reached[i] = append(reached[i], i)
		for k, a := range points[:i] {
			// With the opposite shift a reaches it for b, too.
			if _, ok := reachFrom(a, b, least); ok {
				reached[i] = append(reached[i], k)
				reached[k] = append(reached[k], i)
			}
		}
	}
	return reached
}

// use is a point, and how many of the missed points it reaches.
type use struct{ point, many int }

// mostUseful returns the first point that reaches most of the missed points.
func mostUseful(reached [][]int, missed map[int]bool) int {
	uses := func(yield func(use) bool) {
		for i, l := range reached {
			if !yield(use{i, count(l, missed)}) {
				return
			}
		}
	}
	chosen, _ := best(uses, func(a, b use) int { return cmp.Compare(a.many, b.many) })
	return chosen.point
}

func count(l []int, missed map[int]bool) int {
	n := 0
	for _, k := range l {
		if missed[k] {
			n++
		}
	}
	return n
}
