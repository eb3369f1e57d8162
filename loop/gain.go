package loop

import (
	"slices"

	"ringdown/api"
	"ringdown/num"
)

// holds says that the loop with the gain k is stable.
func (f filter) holds(k api.Num) bool {
	g := f.scaled(k)
	return g.hasLoop() && isStable(g.closed().Out)
}

// isCertain says that the loop is certain from a to b, with the borders of f.
func (f filter) isCertain(borders []api.Num, a, b api.Num) bool {
	if !f.holds(a) {
		return false
	}
	// There are borders that are not 0, because those at a are not.
	many, _ := num.Count(borders, a, b)
	return many == 0
}

// borders returns a polynomial of the gain that is not 0 for any gain with which the loop is stable, and that is 0 for a gain with which it has just ceased to be stable.
//
// The zeros of the loop are moved from the inside of the unit circle to the left of the imaginary axis. If they leave the left, one of them comes to 0 (the first element is 0) or to infinity (the last one is), or two come to the axis on opposite sides, where their sum is 0: then a determinant is 0 (Orlando, Hurwitz).
func (f filter) borders() []api.Num {
	p := toLeft(f.byGain())
	ends := polyMul(p[0], p[len(p)-1])
	return polyMul(ends, determinant(hurwitz(p)))
}

// byGain returns the elements of what is around the loop, each one as a polynomial of the gain.
func (f filter) byGain() [][]api.Num {
	length := max(len(f.In), len(f.Out))
	in, out := padded(f.In, length), padded(f.Out, length)
	list := make([][]api.Num, length)
	for i := range list {
		list[i] = []api.Num{out[i], in[i]}
	}
	return list
}

// toLeft returns the sum, over all elements c(i) of p, of c(i) (1 + w)^(n - i) (1 - w)^i, as a polynomial of w, where n is the greatest index: it is 0 where that with the powers z^(n - i) is 0 for z = (1 + w) / (1 - w), which is inside of the unit circle if w is on the left.
func toLeft(p [][]api.Num) [][]api.Num {
	times := func(p, q [][]api.Num) [][]api.Num { return productOf(p, q, polyAdd, polyMul) }
	one, minusOne := []api.Num{"1"}, []api.Num{"-1"}
	var total [][]api.Num
	power := [][]api.Num{one}
	for _, c := range p {
		total = sumOf(
			times(total, [][]api.Num{one, one}),
			times(power, [][]api.Num{c}),
			polyAdd,
		)
		power = times(power, [][]api.Num{one, minusOne})
	}
	return total
}

// hurwitz returns the matrix whose determinant is 0 if the sum of two zeros of p is 0: its last row and column are left out, as p[0] alone decides what they add.
func hurwitz(p [][]api.Num) [][][]api.Num {
	n := len(p) - 1
	var rows [][][]api.Num
	for i := 1; i < n; i++ {
		var row [][]api.Num
		for j := 1; j < n; j++ {
			var element []api.Num
			if k := n - (2*j - i); k >= 0 && k <= n {
				element = p[k]
			}
			row = append(row, element)
		}
		rows = append(rows, row)
	}
	return rows
}

// determinant returns that of a matrix of polynomials; those without elements are 0.
func determinant(rows [][][]api.Num) []api.Num {
	var expand func(row int, columns []int) []api.Num
	expand = func(row int, columns []int) []api.Num {
		if row == len(rows) {
			return []api.Num{"1"}
		}
		var total []api.Num
		for i, column := range columns {
			element := rows[row][column]
			if len(element) == 0 {
				continue
			}
			others := slices.Delete(slices.Clone(columns), i, i+1)
			term := polyMul(element, expand(row+1, others))
			if i%2 == 1 {
				term = mapped(term, neg)
			}
			total = polyAdd(total, term)
		}
		return total
	}
	var all []int
	for i := range rows {
		all = append(all, i)
	}
	return expand(0, all)
}
