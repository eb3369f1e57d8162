package sky

import (
	"cmp"
	"slices"

	"ringdown/api"
)

// telescope is one for a grid, with the cells that it sees, by turns, as far as they were asked for.
type telescope struct {
	scope api.Scope
	grid  grid
	seen  map[int][]int
}

func telescopesOf(l []api.Scope, g grid) []telescope {
	var list []telescope
	for _, s := range l {
		list = append(list, telescope{s, g, map[int][]int{}})
	}
	return list
}

// sees returns the cells that t sees in a turn.
func (t telescope) sees(turn int) []int {
	cells, isKnown := t.seen[turn]
	if !isKnown {
		zenith := vector(t.scope.Zeniths[turn])
		cells = t.grid.where(func(d vector) bool { return zenith.isNear(d, t.scope.Low) })
		t.seen[turn] = cells
	}
	return cells
}

// covers returns the cells that t covers in a turn if it looks at a cell.
func (t telescope) covers(turn, cell int) []int {
	middle := t.grid.direction(cell)
	var list []int
	for _, other := range t.sees(turn) {
		if middle.isNear(t.grid.direction(other), t.scope.Field) {
			list = append(list, other)
		}
	}
	return list
}

func isTurnOf(telescopes []telescope, turn, scope int) bool {
	return isFrom(0, scope, len(telescopes)-1) && isFrom(0, turn, len(telescopes[scope].scope.Zeniths)-1)
}

func isPlan(telescopes []telescope, plan []api.Look) bool {
	for i, look := range plan {
		if !isTurnOf(telescopes, look.Turn, look.Scope) || !slices.Contains(telescopes[look.Scope].sees(look.Turn), look.Cell) {
			return false
		}
		if i > 0 && compareLooks(plan[i-1], look) >= 0 {
			return false
		}
	}
	return true
}

func compareLooks(a, b api.Look) int {
	return cmp.Or(cmp.Compare(a.Turn, b.Turn), cmp.Compare(a.Scope, b.Scope))
}

// worth is what each cell of a grid still gains when it is covered.
type worth []int

func worthOf(weights, cells []int) worth {
	w := make(worth, len(weights))
	for _, cell := range cells {
		w[cell] = weights[cell]
	}
	return w
}

func (w worth) of(cells []int) int {
	sum := 0
	for _, cell := range cells {
		sum += w[cell]
	}
	return sum
}

// take returns what cells gain; they gain nothing again.
func (w worth) take(cells []int) int {
	gain := w.of(cells)
	for _, cell := range cells {
		w[cell] = 0
	}
	return gain
}

// gainOf returns what a plan gains.
func gainOf(telescopes []telescope, plan []api.Look, w worth) int {
	gain := 0
	for _, look := range plan {
		gain += w.take(telescopes[look.Scope].covers(look.Turn, look.Cell))
	}
	return gain
}

// planned returns the planned looks, and what they gain.
func planned(telescopes []telescope, turns int, w worth) (plan []api.Look, gain int) {
	for turn := range turns {
		for scope, t := range telescopes {
			if cell, more := t.best(turn, w); more > 0 {
				plan = append(plan, api.Look{Turn: turn, Scope: scope, Cell: cell})
				gain += w.take(t.covers(turn, cell))
			}
		}
	}
	return plan, gain
}

// best returns the cell at which t gains most in a turn, and how much that is, or 0 if it gains nothing.
func (t telescope) best(turn int, w worth) (cell, gain int) {
	for _, c := range t.sees(turn) {
		if more := w.of(t.covers(turn, c)); more > gain {
			cell, gain = c, more
		}
	}
	return cell, gain
}
