package lock

import (
	"slices"

	"ringdown/api"
	"ringdown/loop"
	"ringdown/num"
)

// areEnough says that each loop of a system is the index of one of so many filters.
func areEnough(s api.System, many int) bool {
	for _, g := range s.Guards {
		for _, r := range g.Rungs {
			if n := len(r.Loops); n > 0 && r.Loops[n-1].Loop >= many {
				return false
			}
		}
	}
	return true
}

// stretch is a loop, and the ends of its gains.
type stretch struct {
	loop      int
	low, high api.Num
}

// judge is valid filters, and what is known of their loops: most stretches are asked for by the rungs at both of their ends.
type judge struct {
	filters []api.Filter
	certain memory[stretch, bool]
}

// firstUnsound returns the first place where a loop is not sound, if there is one.
func firstUnsound(s api.System, f []api.Filter) (api.Spot, bool) {
	j := judge{filters: f, certain: memory[stretch, bool]{}}
	for i, g := range s.Guards {
		for k, r := range g.Rungs {
			for _, c := range r.Loops {
				if !j.isSound(g, r, c) {
					return api.Spot{Guard: i, Rung: k, Loop: c.Loop}, true
				}
			}
		}
	}
	return api.Spot{}, false
}

// isSound says that a loop is sound in the rung r of g, which closes it so.
func (j judge) isSound(g api.Guard, r api.Rung, c api.Closing) bool {
	if !j.holds(c) {
		return false
	}
	for _, name := range [2]string{r.Next, r.Back} {
		for _, other := range closingsOf(g, name) {
			if other.Loop == c.Loop && !j.isCertain(c, other) {
				return false
			}
		}
	}
	return true
}

// closingsOf returns the loops of the rung with a name, if there is one.
func closingsOf(g api.Guard, name string) []api.Closing {
	if i := indexOf(g, name); i >= 0 {
		return g.Rungs[i].Loops
	}
	return nil
}

func (j judge) holds(c api.Closing) bool {
	list, _ := loop.Holds(j.filters[c.Loop], []api.Num{c.Gain})
	return slices.Equal(list, []bool{true})
}

// isCertain says that the loop that a and b close is certain from the lesser one of their gains to the greater one.
func (j judge) isCertain(a, b api.Closing) bool {
	x := stretch{loop: a.Loop, low: a.Gain, high: b.Gain}
	if order, _ := num.Cmp(x.low, x.high); order > 0 {
		x.low, x.high = x.high, x.low
	}
	return j.certain.get(x, func() bool {
		is, _ := loop.Certain(j.filters[x.loop], x.low, x.high)
		return is
	})
}
