package run

import (
	"slices"

	"ringdown/api"
	"ringdown/glitch"
)

// plan is an api.Plan with fields of the package's own, so that an archive does not give them out.
type plan struct {
	duties []api.Duty
	work   []api.Segment
	vetoes [detectors][]api.Veto
	data   [detectors][]int
}

func planOf(p api.Plan) plan { return plan{p.Duties, p.Work, p.Vetoes, p.Data} }

// copyOfPlan returns a plan that shares no memory with p.
func copyOfPlan(p api.Plan) api.Plan {
	p.Duties, p.Work = slices.Clone(p.Duties), slices.Clone(p.Work)
	for detector := range detectors {
		p.Data[detector] = slices.Clone(p.Data[detector])
		p.Vetoes[detector] = copyOfVetoes(p.Vetoes[detector])
	}
	return p
}

func copyOfVetoes(l []api.Veto) []api.Veto {
	l = slices.Clone(l)
	for i, v := range l {
		l[i].Segments = slices.Clone(v.Segments)
	}
	return l
}

func (p plan) check() api.Errno {
	switch {
	case !areSamples(p.data):
		return api.ErrPlan
	case !areDuties(p.duties, p.span()):
		return api.ErrRoster
	case !isWork(p.work, p.duties):
		return api.ErrWork
	}
	for _, vetoes := range p.vetoes {
		if e := glitch.CheckVetoes(vetoes); e != api.OK {
			return e
		}
	}
	return api.OK
}

// span returns how many times there are.
func (p plan) span() int { return len(p.data[0]) }

// watcher returns who watches at a time.
func (p plan) watcher(t int) string {
	hasIt := func(d api.Duty) bool { return t < d.To }
	return p.duties[slices.IndexFunc(p.duties, hasIt)].Who
}

// quiet returns for each time whether it is so in a detector.
func (p plan) quiet(detector int) []bool {
	list := slices.Repeat([]bool{true}, p.span())
	disturb := func(segments []api.Segment) {
		for _, s := range segments {
			clear(list[s.From:s.To])
		}
	}
	disturb(p.work)
	for _, v := range p.vetoes[detector] {
		// There is no error, as the vetoes and the number of samples were checked.
		held, _ := glitch.Held(v, p.span())
		disturb(held)
	}
	return list
}

// ready returns all times that are ready for a length.
func (p plan) ready(detector, length int) []int {
	var times []int
	quietSince := 0
	for t, isQuiet := range p.quiet(detector) {
		first := t + 1 - length
		if !isQuiet {
			quietSince = t + 1
		} else if first >= quietSince {
			times = append(times, first)
		}
	}
	return times
}

// tallies returns how many times are quiet in detector 0, in detector 1, and in both.
func (p plan) tallies() []api.Tally {
	one, other := p.quiet(0), p.quiet(1)
	both := make([]bool, p.span())
	for t := range both {
		both[t] = one[t] && other[t]
	}
	return []api.Tally{tally(one), tally(other), tally(both)}
}

func tally(list []bool) api.Tally {
	n := 0
	for _, isSuch := range list {
		if isSuch {
			n++
		}
	}
	return api.Tally{N: n, Of: len(list)}
}
