package alert

import (
	"slices"

	"ringdown/api"
	"ringdown/num"
	"ringdown/sky"
)

// Limits that have no name in api.
const (
	leastPrime    = 3
	leastExponent = 3
	mostExponent  = 32749
	leastModulus  = 15
	mostModulus   = 1 << 30
	mostSecret    = 1 << 30
)

func isFrom(low, n, high int) bool { return low <= n && n <= high }

func isAlert(a api.Alert) bool {
	return num.IsName(a.Event) && isFrom(1, a.Version, api.MaxVersion) && isFrom(0, a.Time, api.MaxMinute) && isChance(a.Chance) && isPlaced(a) && isBefore(a)
}

func isChance(c api.Chance) bool { return isFrom(1, c.N, c.Of) && c.Of <= api.MaxOf }

// isPlaced says that an alert has a grid, and some cells of it unless it is withdrawn.
func isPlaced(a api.Alert) bool {
	cells, e := sky.Cells(a.Grid)
	return e == api.OK && areCells(cells, a.Cells) && a.Withdrawn == (len(a.Cells) == 0)
}

// areCells says that these are some of so many cells.
func areCells(many int, cells []int) bool {
	last := -1
	for _, cell := range cells {
		if !isFrom(last+1, cell, many-1) {
			return false
		}
		last = cell
	}
	return true
}

func isBefore(a api.Alert) bool {
	if a.Version == 1 {
		return a.Before == 0
	}
	return isFrom(0, a.Before, api.DigestPrime-1)
}

func isRoll(r api.Roll) bool {
	if !isFrom(1, len(r.Keys), api.MaxKeys) || !isFrom(1, r.Quorum, len(r.Keys)) {
		return false
	}
	for i, k := range r.Keys {
		isSame := func(other api.Key) bool { return other.Modulus == k.Modulus }
		if !key(k).isPlausible() || slices.ContainsFunc(r.Keys[:i], isSame) {
			return false
		}
	}
	return true
}
