package sky

import (
	"iter"

	"ringdown/api"
)

// grid is how many cells each face has along an edge.
type grid int

func (g grid) isValid() bool { return isFrom(1, int(g), api.MaxGrid) }

func (g grid) cells() int { return 6 * int(g*g) }

func (g grid) isCell(cell int) bool { return isFrom(0, cell, g.cells()-1) }

// axes returns the one through a face, and the other two in order.
func axes(face int) (through, first, second int) {
	switch face / 2 {
	case 0:
		return 0, 1, 2
	case 1:
		return 1, 0, 2
	}
	return 2, 0, 1
}

// direction returns that of a cell.
func (g grid) direction(cell int) vector {
	n := int(g)
	face, i, j := cell/(n*n), cell/n%n, cell%n
	through, first, second := axes(face)
	var d vector
	d[through], d[first], d[second] = n, 2*i+1-n, 2*j+1-n
	if face%2 == 1 {
		d[through] = -n
	}
	return d
}

// cellOf returns the cell of a vector that is not 0.
func (g grid) cellOf(v vector) int {
	face := faceOf(v)
	through, first, second := axes(face)
	n, most := int(g), max(v[through], -v[through])
	index := func(p int) int { return min((p+most)*n/(2*most), n-1) }
	return (face*n+index(v[first]))*n + index(v[second])
}

// faceOf returns the face of the coordinate with the greatest magnitude.
func faceOf(v vector) int {
	face, most := 0, 0
	for axis, n := range v {
		if n > most {
			face, most = 2*axis, n
		} else if -n > most {
			face, most = 2*axis+1, -n
		}
	}
	return face
}

// directions yields all cells with their directions, in order.
func (g grid) directions() iter.Seq2[int, vector] {
	return func(yield func(cell int, d vector) bool) {
		for cell := range g.cells() {
			if !yield(cell, g.direction(cell)) {
				return
			}
		}
	}
}

// where returns the cells whose directions are as is asked for.
func (g grid) where(isOne func(d vector) bool) []int {
	var list []int
	for cell, d := range g.directions() {
		if isOne(d) {
			list = append(list, cell)
		}
	}
	return list
}
