package sky

import (
	"math"
	"math/big"
	"slices"

	"ringdown/api"
)

// The definitions of the chapter once more, as they are written, with whole numbers and fractions of any size.

func modelDirections(n int) [][3]int {
	var l [][3]int
	for face := range 6 {
		for i := range n {
			for j := range n {
				a, b := 2*i+1-n, 2*j+1-n
				l = append(l, [][3]int{{n, a, b}, {-n, a, b}, {a, n, b}, {a, -n, b}, {a, b, n}, {a, b, -n}}[face])
			}
		}
	}
	return l
}

func modelCellOf(n int, v [3]int) int {
	magnitude := func(k int) int { return int(math.Abs(float64(v[k]))) }
	axis := 0
	for k := range v {
		if magnitude(k) > magnitude(axis) {
			axis = k
		}
	}
	m, face := magnitude(axis), 2*axis
	if v[axis] < 0 {
		face++
	}
	other := [][]int{{1, 2}, {0, 2}, {0, 1}}[axis]
	index := func(p int) int {
		k := 0
		for k+1 <= n-1 && (k+1)*2*m <= (p+m)*n {
			k++
		}
		return k
	}
	return (face*n+index(v[other[0]]))*n + index(v[other[1]])
}

func modelDot(v, w [3]int) *big.Int {
	sum := new(big.Int)
	for k := range v {
		sum.Add(sum, new(big.Int).Mul(big.NewInt(int64(v[k])), big.NewInt(int64(w[k]))))
	}
	return sum
}

// modelCompare compares the projection of v on d, a real number, with a whole number.
func modelCompare(v, d [3]int, t int) int {
	top, whole := modelDot(v, d), big.NewInt(int64(t))
	if top.Sign() != whole.Sign() {
		return big.NewInt(int64(top.Sign())).Cmp(big.NewInt(int64(whole.Sign())))
	}
	whole.Mul(whole, whole).Mul(whole, modelDot(d, d))
	return top.Sign() * new(big.Int).Mul(top, top).Cmp(whole)
}

func modelLess(v, w [3]int) [3]int { return [3]int{v[0] - w[0], v[1] - w[1], v[2] - w[2]} }

func modelArrive(s api.Site, d [3]int) int {
	from := modelLess([3]int{}, s.Place)
	t := -1 << 18
	for step := 1 << 18; step > 0; step /= 2 {
		if modelCompare(from, d, t+step) >= 0 {
			t += step
		}
	}
	return t
}

// modelIsOn says that the difference of a and b, that at b less that at a, is about as great as is said.
func modelIsOn(a, b api.Site, d [3]int, difference, slack int) bool {
	later := modelLess(a.Place, b.Place)
	return modelCompare(later, d, difference-slack) >= 0 && modelCompare(later, d, difference+slack) <= 0
}

func modelRing(l []api.Site, n, a, b, difference, slack int) []int {
	var cells []int
	for i, d := range modelDirections(n) {
		if modelIsOn(l[a], l[b], d, difference, slack) {
			cells = append(cells, i)
		}
	}
	return cells
}

func modelFits(l []api.Site, n int, t []api.Arrival) []int {
	cells := upTo(6 * n * n)
	for i := range t {
		for k := range i {
			ring := modelRing(l, n, t[k].Site, t[i].Site, t[i].Time-t[k].Time, t[i].Slack+t[k].Slack)
			cells = slices.DeleteFunc(cells, func(c int) bool { return !slices.Contains(ring, c) })
		}
	}
	return cells
}

func modelSquare(arm, d [3]int) *big.Rat {
	top, under := modelDot(arm, d), new(big.Int).Mul(modelDot(arm, arm), modelDot(d, d))
	return new(big.Rat).SetFrac(new(big.Int).Mul(top, top), under)
}

func modelGrasp(s api.Site, d [3]int) *big.Rat {
	return new(big.Rat).Sub(modelSquare(s.ArmU, d), modelSquare(s.ArmV, d))
}

func rat(a api.Num) *big.Rat {
	r, ok := new(big.Rat).SetString(string(a))
	if !ok {
		panic(a)
	}
	return r
}

func modelHeard(l []api.Site, d [3]int, least api.Num) []int {
	var heard []int
	for i, s := range l {
		g := modelGrasp(s, d)
		if g.Abs(g).Cmp(rat(least)) >= 0 {
			heard = append(heard, i)
		}
	}
	return heard
}

// modelTaken are cells in the order in which they are taken.
func modelTaken(weights, cells []int, part api.Num) []int {
	all := 0
	for _, c := range cells {
		all += weights[c]
	}
	goal := new(big.Rat).Mul(rat(part), big.NewRat(int64(all), 1))
	var taken []int
	for sum := 0; big.NewRat(int64(sum), 1).Cmp(goal) < 0; {
		next := -1
		for _, c := range cells {
			if !slices.Contains(taken, c) && (next < 0 || weights[c] > weights[next]) {
				next = c
			}
		}
		taken = append(taken, next)
		sum += weights[next]
	}
	return taken
}

func modelNear(v, w [3]int, l api.Limit) bool {
	product := modelDot(v, w)
	both := new(big.Rat).SetInt(new(big.Int).Mul(modelDot(v, v), modelDot(w, w)))
	square := new(big.Rat).SetInt(new(big.Int).Mul(product, product))
	return product.Sign() > 0 && square.Cmp(both.Mul(both, big.NewRat(int64(l.N), int64(l.D)))) >= 0
}

func modelSees(s api.Scope, turn, n int) []int {
	var cells []int
	for i, d := range modelDirections(n) {
		if modelNear(d, s.Zeniths[turn], s.Low) {
			cells = append(cells, i)
		}
	}
	return cells
}

func modelCovers(l []api.Scope, n int, look api.Look) []int {
	d := modelDirections(n)
	far := func(c int) bool { return !modelNear(d[c], d[look.Cell], l[look.Scope].Field) }
	return slices.DeleteFunc(modelSees(l[look.Scope], look.Turn, n), far)
}

func modelGain(l []api.Scope, n int, weights, cells []int, plan []api.Look) int {
	isCovered := map[int]bool{}
	for _, look := range plan {
		for _, c := range modelCovers(l, n, look) {
			isCovered[c] = true
		}
	}
	gain := 0
	for _, c := range cells {
		if isCovered[c] {
			gain += weights[c]
		}
	}
	return gain
}

func modelPlan(l []api.Scope, n int, weights, cells []int) []api.Look {
	var plan []api.Look
	for turn := range l[0].Zeniths {
		for i := range l {
			best, most := plan, modelGain(l, n, weights, cells, plan)
			for _, c := range modelSees(l[i], turn, n) {
				with := append(slices.Clone(plan), api.Look{Turn: turn, Scope: i, Cell: c})
				if gain := modelGain(l, n, weights, cells, with); gain > most {
					best, most = with, gain
				}
			}
			plan = best
		}
	}
	return plan
}

// modelPlans are all plans for telescopes with few cells.
func modelPlans(l []api.Scope, n int) [][]api.Look {
	plans := [][]api.Look{nil}
	for turn := range l[0].Zeniths {
		for i := range l {
			for _, plan := range plans {
				for _, c := range modelSees(l[i], turn, n) {
					plans = append(plans, append(slices.Clone(plan), api.Look{Turn: turn, Scope: i, Cell: c}))
				}
			}
		}
	}
	return plans
}
