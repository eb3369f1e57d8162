package sky

import (
	"fmt"
	"math/big"
	"math/rand"
	"slices"
	"strings"
	"testing"

	"ringdown/api"
	"ringdown/num"
)

func validNets() [][]api.Site {
	far := 1 << 16
	named := exampleNet()
	named[0].Name, named[1].Name = "a234567890_23456", "a"
	return [][]api.Site{
		exampleNet(), named, netAt(make([][3]int, 2)...), netAt(make([][3]int, 6)...), netAt([3]int{far, far, far}, [3]int{-far, -far, -far}),
		// Arms may be the same, or opposite, and longer than each other.
		{siteAt("a", [3]int{}, [3]int{100, -100, 100}, [3]int{100, -100, 100}), siteAt("b", [3]int{}, [3]int{0, 0, -100}, [3]int{0, 0, 1}), siteAt("a_", [3]int{}, [3]int{0, 1, 0}, [3]int{-1, 0, 0})},
	}
}

// wrongNets are no networks because of one thing each.
func wrongNets() [][]api.Site {
	one := exampleNet()[:1]
	l := [][]api.Site{nil, {}, one, make([]api.Site, 2), netAt(make([][3]int, 7)...), netAt(make([][3]int, 100)...), append(exampleNet(), one...), {one[0], one[0]}}
	change := func(do func(*api.Site)) {
		for i := range 2 {
			wrong := exampleNet()
			do(&wrong[i])
			l = append(l, wrong)
		}
	}
	for _, name := range wrongNames() {
		change(func(s *api.Site) { s.Name = name })
	}
	for axis := range 3 {
		for _, n := range beyond(-1<<16, 1<<16) {
			change(func(s *api.Site) { s.Place[axis] = n })
		}
		for _, n := range beyond(-100, 100) {
			change(func(s *api.Site) { s.ArmU[axis] = n })
			change(func(s *api.Site) { s.ArmV[axis] = n })
		}
	}
	change(func(s *api.Site) { s.ArmU = [3]int{} })
	change(func(s *api.Site) { s.ArmV = [3]int{} })
	return l
}

// P9.2: which lists are networks.
func TestCheckNet(t *testing.T) {
	for _, l := range validNets() {
		hasError(t, fmt.Sprint(l), CheckNet(l), api.OK)
	}
	for _, l := range wrongNets() {
		hasError(t, fmt.Sprint(l), CheckNet(l), api.ErrNet)
	}
}

// netErrors calls all functions with a network.
func netErrors(t *testing.T, l []api.Site, n, cell int, a int, arrived []api.Arrival, least api.Num, want api.Errno) {
	t.Helper()
	what := fmt.Sprint(l, n, cell, a, arrived, least)
	times, e := Arrive(l, n, cell)
	isList(t, what, times, e, nil, want)
	cells, e := Ring(l, n, a, 1, 0, 0)
	isList(t, what, cells, e, nil, want)
	cells, e = Fits(l, n, arrived)
	isList(t, what, cells, e, nil, want)
	grasps, e := Grasp(l, n, cell)
	isList(t, what, grasps, e, nil, want)
	heard, e := Heard(l, n, cell, least)
	isList(t, what, heard, e, nil, want)
}

// P9.2: ErrNet comes first, then ErrGrid.
func TestErrorsOfNets(t *testing.T) {
	good := arrivals(0, 0, 0, 1, 0, 0)
	for _, l := range wrongNets() {
		netErrors(t, l, 1, 0, 0, good, "0", api.ErrNet)
		netErrors(t, l, 0, 0, 0, good, "0", api.ErrNet)
		netErrors(t, l, 1, -1, 1, nil, "i", api.ErrNet)
		netErrors(t, l, 9, 0, -1, nil, "x", api.ErrNet)
	}
	for _, l := range validNets() {
		for _, n := range wrongGrids() {
			netErrors(t, l, n, 0, 0, good, "0", api.ErrGrid)
			netErrors(t, l, n, -1, 1, nil, "i", api.ErrGrid)
			netErrors(t, l, n, 0, -1, nil, "x", api.ErrGrid)
		}
	}
	for n := 1; n <= 8; n++ {
		for _, cell := range wrongCells(n) {
			what := fmt.Sprint(n, cell)
			times, e := Arrive(exampleNet(), n, cell)
			isList(t, what, times, e, nil, api.ErrGrid)
			grasps, e := Grasp(exampleNet(), n, cell)
			isList(t, what, grasps, e, nil, api.ErrGrid)
			for _, least := range nums("0", "i", "x") {
				heard, e := Heard(exampleNet(), n, cell, least)
				isList(t, what, heard, e, nil, api.ErrGrid)
			}
		}
	}
}

// P9.2: the examples, times that are whole, and such as are rounded down to the one side and the other one.
func TestArrive(t *testing.T) {
	far := 1 << 16
	for _, c := range []struct {
		l       []api.Site
		n, cell int
		want    []int
	}{
		{exampleNet(), 1, 0, list(-10, 0)}, {exampleNet(), 1, 2, list(0, -10)}, {exampleNet(), 1, 4, list(0, 0)}, {exampleNet(), 1, 1, list(10, 0)}, {exampleNet(), 1, 3, list(0, 10)},
		// The direction 2 -1 -1 is as long as the square root of 6.
		{exampleNet(), 2, 0, list(-9, 4)}, {netAt([3]int{1, 0, 0}, [3]int{-1, 0, 0}, [3]int{2, -1, -1}, [3]int{-2, 1, 1}, [3]int{0, 1, -1}), 2, 0, list(-1, 0, -3, 2, 0)},
		// 7 4 4 is as long as 9.
		{netAt([3]int{9, 0, 0}, [3]int{-9, 0, 0}, [3]int{7, 4, 4}, [3]int{-7, -4, -4}, [3]int{7, 4, 5}, [3]int{-7, -4, -5}), 7, 40, list(-7, 7, -9, 9, -10, 9)}, {netAt([3]int{7, 4, 3}, [3]int{-7, -4, -3}), 7, 40, list(-9, 8)},
		{netAt([3]int{far, far, far}, [3]int{-far, -far, -far}, [3]int{far, 0, 0}), 1, 0, list(-far, far, -far)},
		{netAt([3]int{far, far, far}, [3]int{-far, -far, -far}), 8, 63, list(-113278, 113277)},
	} {
		times, e := Arrive(c.l, c.n, c.cell)
		isList(t, fmt.Sprint(c.l, c.n, c.cell), times, e, c.want, api.OK)
	}
}

// P9.2: the examples, arms that are longer, and such as are not at right angles.
func TestGrasp(t *testing.T) {
	slanted := []api.Site{siteAt("a", [3]int{}, [3]int{1, 1, 0}, [3]int{1, 1, 0}), siteAt("b", [3]int{5, 5, 5}, [3]int{3, 4, 0}, [3]int{0, 0, -7}), siteAt("c", [3]int{}, [3]int{100, -100, 100}, [3]int{1, 2, 3})}
	for _, c := range []struct {
		l       []api.Site
		n, cell int
		want    []api.Num
	}{
		{exampleNet(), 1, 0, nums("1", "0")}, {exampleNet(), 1, 2, nums("-1", "1")}, {exampleNet(), 2, 0, nums("1/2", "0")}, {exampleNet(), 1, 4, nums("0", "-1")}, {exampleNet(), 1, 5, nums("0", "-1")}, {exampleNet(), 2, 16, nums("0", "-1/2")},
		{slanted, 1, 0, nums("0", "9/25", "11/42")}, {slanted, 1, 2, nums("0", "16/25", "1/21")}, {slanted, 1, 4, nums("0", "-1", "-13/42")}, {slanted, 2, 0, nums("0", "-7/50", "29/252")},
	} {
		what := fmt.Sprint(c.l, c.n, c.cell)
		grasps, e := Grasp(c.l, c.n, c.cell)
		isList(t, what, grasps, e, c.want, api.OK)
		for i, g := range c.want {
			if modelGrasp(c.l[i], modelDirections(c.n)[c.cell]).Cmp(rat(g)) != 0 {
				t.Errorf("%s: %s", what, g)
			}
		}
	}
}

// P9.2: magnitudes that are just enough, and such as are not.
func TestHeard(t *testing.T) {
	long := "1" + strings.Repeat("0", 1999)
	for _, c := range []struct {
		n, cell int
		least   api.Num
		want    []int
	}{
		{1, 0, "1", list(0)}, {1, 0, "0", list(0, 1)}, {1, 0, "1/1000", list(0)}, {1, 0, "1001/1000", nil}, {1, 0, "-1", list(0, 1)}, {1, 0, api.Num("-" + long), list(0, 1)}, {1, 0, api.Num("1/" + long), list(0)}, {1, 0, api.Num(long), nil},
		{1, 2, "1", list(0, 1)}, {1, 2, "1/2", list(0, 1)}, {1, 4, "1", list(1)}, {2, 0, "1/2", list(0)}, {2, 0, "500001/1000000", nil}, {2, 16, "1/2", list(1)}, {2, 16, "-1/2", list(0, 1)},
	} {
		what := fmt.Sprint(c.n, c.cell, c.least)
		heard, e := Heard(exampleNet(), c.n, c.cell, c.least)
		isList(t, what, heard, e, c.want, api.OK)
		isList(t, what, heard, e, modelHeard(exampleNet(), modelDirections(c.n)[c.cell], c.least), api.OK)
	}
	for _, least := range nums("", "x", "2/4", "+1", "01", "0.5", "1/0", " 1", api.Num(long+"0")) {
		heard, e := Heard(exampleNet(), 1, 0, least)
		isList(t, string(least), heard, e, nil, api.ErrNum)
	}
	for _, least := range nums("i", "1+i", "-1/2i") {
		heard, e := Heard(exampleNet(), 1, 0, least)
		isList(t, string(least), heard, e, nil, api.ErrReal)
	}
}

// P9.2, P9.11: as the definitions say; a grasp is from -1 to 1, and changes its sign if the arms are exchanged.
func TestRandomNets(t *testing.T) {
	r := rand.New(rand.NewSource(1))
	whole, some := 0, 0
	for range 4000 {
		l, n := randomNet(r), randomGrid(r)
		cell := r.Intn(6 * n * n)
		d, what := modelDirections(n)[cell], fmt.Sprint(l, n, cell)
		hasError(t, what, CheckNet(l), api.OK)
		times, e := Arrive(l, n, cell)
		isList(t, what, times, e, modelTimes(l, d), api.OK)
		for i, s := range l {
			if modelCompare(modelLess([3]int{}, s.Place), d, times[i]) == 0 {
				whole++
			}
		}
		grasps, e := Grasp(l, n, cell)
		hasError(t, what, e, api.OK)
		areGrasps(t, what, l, d, grasps)
		exchanged := slices.Clone(l)
		for i, s := range l {
			exchanged[i].ArmU, exchanged[i].ArmV = s.ArmV, s.ArmU
		}
		for i, g := range must[[]api.Num](t)(Grasp(exchanged, n, cell)) {
			is(t, what, g, e, must[api.Num](t)(num.Neg(grasps[i])), api.OK)
		}
		least := pick(r, grasps...)
		if r.Intn(2) == 0 {
			least = must[api.Num](t)(num.Of(randomNumber(r, 20), 1+r.Intn(20)))
		}
		heard, e := Heard(l, n, cell, least)
		isList(t, what, heard, e, modelHeard(l, d, least), api.OK)
		if 0 < len(heard) && len(heard) < len(l) {
			some++
		}
	}
	if whole < 1000 || some < 500 {
		t.Errorf("%d whole times, %d with some sites", whole, some)
	}
}

func modelTimes(l []api.Site, d [3]int) []int {
	var times []int
	for _, s := range l {
		times = append(times, modelArrive(s, d))
	}
	return times
}

func areGrasps(t *testing.T, what string, l []api.Site, d [3]int, grasps []api.Num) {
	t.Helper()
	one := big.NewRat(1, 1)
	if len(grasps) != len(l) {
		t.Fatalf("%s: %v", what, grasps)
	}
	for i, s := range l {
		g := rat(grasps[i])
		if g.Cmp(modelGrasp(s, d)) != 0 || num.Check(grasps[i]) != api.OK || g.Abs(g).Cmp(one) > 0 {
			t.Errorf("%s: %v", what, grasps)
		}
	}
}
