package run

import "ringdown/api"

// lift makes what is added to a stamp greater than 0: no number is as far below.
const lift = 1 << 31

// stamp returns the stamp of the plan and the recipe.
func (m maker) stamp() int {
	stamp := 1
	add := func(numbers ...int) {
		for _, n := range numbers {
			stamp = (stamp*api.DrawStep + n + lift) % api.DrawRing
		}
	}
	eachOfPlan(m.plan, add)
	eachOfRecipe(m.Recipe, add)
	return stamp
}

// eachOfPlan does something with the numbers of a plan, in order.
func eachOfPlan(p plan, do func(numbers ...int)) {
	do(p.span(), len(p.duties))
	for _, d := range p.duties {
		do(bytesOf(d.Who)...)
		do(d.From, d.To)
	}
	do(endsOf(p.work)...)
	for detector := range detectors {
		do(len(p.vetoes[detector]))
		for _, v := range p.vetoes[detector] {
			do(bytesOf(v.Name)...)
			do(endsOf(v.Segments)...)
		}
		do(p.data[detector]...)
	}
}

// eachOfRecipe does something with the numbers of a recipe, in order.
func eachOfRecipe(r api.Recipe, do func(numbers ...int)) {
	do(r.Version, r.Length, len(r.Bank))
	for _, c := range r.Bank {
		do(c.P, c.Q)
	}
	do(r.Variance, r.Floor, r.Window, r.Parts, r.Misfit, r.Near, r.Step, r.Limit)
}

// bytesOf returns how many bytes a name has, and these.
func bytesOf(name string) []int {
	list := []int{len(name)}
	for _, b := range []byte(name) {
		list = append(list, int(b))
	}
	return list
}

// endsOf returns how many segments there are, and both ends of each one.
func endsOf(l []api.Segment) []int {
	list := []int{len(l)}
	for _, s := range l {
		list = append(list, s.From, s.To)
	}
	return list
}
