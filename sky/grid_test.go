package sky

import (
	"fmt"
	"math/rand"
	"testing"

	"ringdown/api"
)

// P9.1: how many cells there are, in which directions.
func TestCells(t *testing.T) {
	for n := 1; n <= 8; n++ {
		many, e := Cells(n)
		is(t, fmt.Sprint(n), many, e, []int{0, 6, 24, 54, 96, 150, 216, 294, 384}[n], api.OK)
		directions := modelDirections(n)
		is(t, fmt.Sprint(n), len(directions), e, many, api.OK)
		for cell, want := range directions {
			d, e := Direction(n, cell)
			is(t, fmt.Sprint(n, cell), d, e, want, api.OK)
		}
	}
}

// P9.1: the example, and cells of each face.
func TestDirection(t *testing.T) {
	for _, c := range []struct {
		n, cell int
		want    [3]int
	}{
		{1, 0, [3]int{1, 0, 0}}, {1, 1, [3]int{-1, 0, 0}}, {1, 2, [3]int{0, 1, 0}}, {1, 3, [3]int{0, -1, 0}}, {1, 4, [3]int{0, 0, 1}}, {1, 5, [3]int{0, 0, -1}},
		{2, 0, [3]int{2, -1, -1}}, {2, 1, [3]int{2, -1, 1}}, {2, 2, [3]int{2, 1, -1}}, {2, 3, [3]int{2, 1, 1}}, {2, 4, [3]int{-2, -1, -1}}, {2, 6, [3]int{-2, 1, -1}}, {2, 9, [3]int{-1, 2, 1}}, {2, 14, [3]int{1, -2, -1}}, {2, 17, [3]int{-1, 1, 2}}, {2, 23, [3]int{1, 1, -2}},
		{8, 0, [3]int{8, -7, -7}}, {8, 383, [3]int{7, 7, -8}}, {8, 200, [3]int{-5, -8, -7}},
	} {
		d, e := Direction(c.n, c.cell)
		is(t, fmt.Sprint(c.n, c.cell), d, e, c.want, api.OK)
	}
}

// P9.1: which grids and cells there are not.
func TestErrorsOfGrids(t *testing.T) {
	for _, n := range wrongGrids() {
		many, e := Cells(n)
		is(t, fmt.Sprint(n), many, e, 0, api.ErrGrid)
		for _, cell := range list(0, 1, -1, 6, 384, 1<<62) {
			d, e := Direction(n, cell)
			is(t, fmt.Sprint(n, cell), d, e, [3]int{}, api.ErrGrid)
		}
		for _, v := range [][3]int{{1, 2, 3}, {}, {1001, 0, 0}} {
			cell, e := CellOf(n, v)
			is(t, fmt.Sprint(n, v), cell, e, 0, api.ErrGrid)
		}
	}
	for n := 1; n <= 8; n++ {
		for _, cell := range wrongCells(n) {
			d, e := Direction(n, cell)
			is(t, fmt.Sprint(n, cell), d, e, [3]int{}, api.ErrGrid)
		}
		cell, e := CellOf(n, [3]int{})
		is(t, fmt.Sprint(n), cell, e, 0, api.ErrNone)
		for axis := range 3 {
			for _, far := range beyond(-1000, 1000) {
				v := [3]int{1, 1, 1}
				v[axis] = far
				cell, e := CellOf(n, v)
				is(t, fmt.Sprint(n, v), cell, e, 0, api.ErrRange)
				v = [3]int{}
				v[axis] = far
				cell, e = CellOf(n, v)
				is(t, fmt.Sprint(n, v), cell, e, 0, api.ErrRange)
			}
			for _, far := range list(-1000, 1000) {
				var v [3]int
				v[axis] = far
				_, e := CellOf(n, v)
				hasError(t, fmt.Sprint(n, v), e, api.OK)
			}
		}
	}
}

// P9.1: the example, edges and corners.
func TestCellOf(t *testing.T) {
	for _, c := range []struct {
		n    int
		v    [3]int
		want int
	}{
		{2, [3]int{2, -1, -1}, 0}, {2, [3]int{5, 0, -5}, 2},
		{1, [3]int{1, 0, 0}, 0}, {1, [3]int{-1, 0, 0}, 1}, {1, [3]int{0, 1, 0}, 2}, {1, [3]int{0, -1, 0}, 3}, {1, [3]int{0, 0, 1}, 4}, {1, [3]int{0, 0, -1}, 5},
		// Of equal magnitudes the first one decides, whatever their signs.
		{1, [3]int{1, 1, 1}, 0}, {1, [3]int{-1, 1, 1}, 1}, {1, [3]int{1, -1, -1}, 0}, {1, [3]int{-1, -1, -1}, 1}, {1, [3]int{0, 1, 1}, 2}, {1, [3]int{0, 1, -1}, 2}, {1, [3]int{0, -1, 1}, 3}, {1, [3]int{1, 2, -2}, 2}, {1, [3]int{1, -2, 2}, 3}, {1, [3]int{-2, 1, 2}, 1}, {1, [3]int{2, 1, -2}, 0}, {1, [3]int{2, 2, 3}, 4}, {1, [3]int{2, 2, -3}, 5}, {1, [3]int{2, 3, 2}, 2},
		// The ends of a face are in its first and last cells, the middle is in the one behind it.
		{2, [3]int{1, -1, 1}, 1}, {2, [3]int{1, 1, 1}, 3}, {2, [3]int{1, 0, 0}, 3}, {3, [3]int{1, 0, 0}, 4}, {3, [3]int{3, -1, 1}, 5}, {3, [3]int{300, -101, 99}, 1}, {4, [3]int{-1, 0, 0}, 26}, {8, [3]int{1000, 1000, 1000}, 63}, {8, [3]int{-1000, -1000, -1000}, 64}, {8, [3]int{-1000, 999, -999}, 64 + 56}, {8, [3]int{7, 7, -8}, 383}, {8, [3]int{999, 999, -1000}, 383}, {8, [3]int{-750, 0, 1000}, 268}, {8, [3]int{-751, 0, 1000}, 260},
	} {
		cell, e := CellOf(c.n, c.v)
		is(t, fmt.Sprint(c.n, c.v), cell, e, c.want, api.OK)
		is(t, fmt.Sprint(c.n, c.v), cell, e, modelCellOf(c.n, c.v), api.OK)
	}
}

// P9.8: the cell of the direction of a cell, and of its multiples.
func TestCellOfDirection(t *testing.T) {
	for n := 1; n <= 8; n++ {
		for cell := range 6 * n * n {
			d := must[[3]int](t)(Direction(n, cell))
			for _, factor := range list(1, 2, 3, 7, 100, 125) {
				v := [3]int{factor * d[0], factor * d[1], factor * d[2]}
				same, e := CellOf(n, v)
				is(t, fmt.Sprint(n, v), same, e, cell, api.OK)
			}
		}
	}
}

// P9.1, P9.8: as the definitions say, for vectors near edges too.
func TestRandomCells(t *testing.T) {
	r := rand.New(rand.NewSource(1))
	for range 20000 {
		n, v := randomGrid(r), randomNonzero(r, pick(r, 1, 2, 5, 30, 1000))
		if r.Intn(4) == 0 {
			v[r.Intn(3)] = pick(r, v[0], -v[0])
		}
		if v == [3]int{} {
			continue
		}
		cell, e := CellOf(n, v)
		is(t, fmt.Sprint(n, v), cell, e, modelCellOf(n, v), api.OK)
		factor := 1 + r.Intn(1000/max(v[0], -v[0], v[1], -v[1], v[2], -v[2]))
		same, e := CellOf(n, [3]int{factor * v[0], factor * v[1], factor * v[2]})
		is(t, fmt.Sprint(n, v, factor), same, e, cell, api.OK)
	}
}
