package lock

import (
	"math/rand"
	"slices"
	"testing"

	"ringdown/api"
)

// P4.1: the status at the beginning.
func TestStart(t *testing.T) {
	x, e := Start(example())
	isStatus(t, "Start", x, e, at(0, 0), api.OK)
	x, e = Start(largest())
	isStatus(t, "Start", x, e, at(0, 0, 0), api.OK)
	x, e = Start(systemWith(guard("a", rungAs("a", "", "a", 1, 1))))
	isStatus(t, "Start", x, e, at(0), api.OK)
}

// P4.2: what happens to the guard, and which guards drop.
func TestMove(t *testing.T) {
	s := example()
	failedOnce := statusWith([]int{1, 0}, []int{1, 0})
	for _, c := range []struct {
		x    api.Status
		v    api.Event
		want api.Status
	}{
		{at(0, 0), win(0), at(1, 0)}, {at(1, 0), win(0), at(2, 0)}, {at(2, 0), win(0), at(2, 0)},
		{at(0, 0), fail(0), at(0, 0)}, {at(1, 0), fail(0), failedOnce}, {failedOnce, fail(0), at(0, 0)}, {at(2, 0), fail(0), at(1, 0)},
		{at(0, 0), lost(0), at(0, 0)}, {at(1, 0), lost(0), at(0, 0)}, {failedOnce, lost(0), at(0, 0)}, {at(2, 0), lost(0), at(0, 0)},
		{failedOnce, win(0), at(2, 0)}, {failedOnce, win(1), failedOnce}, {failedOnce, fail(1), failedOnce}, {failedOnce, lost(1), failedOnce},
		{at(0, 0), win(1), at(0, 0)}, {at(1, 0), win(1), at(1, 0)}, {at(2, 0), win(1), at(2, 1)},
		{at(2, 1), win(1), at(2, 1)}, {at(2, 1), fail(1), at(2, 0)}, {at(2, 1), lost(1), at(2, 0)},
		{at(2, 1), win(0), at(2, 1)}, {at(2, 1), fail(0), at(1, 0)}, {at(2, 1), lost(0), at(0, 0)},
	} {
		x, e := Move(s, c.x, c.v)
		isStatus(t, key(c.x)+key(statusWith([]int{c.v.Guard}, []int{c.v.Kind})), x, e, c.want, api.OK)
	}
}

// P4.2: failed tries are kept at a goal that wins, and are forgotten by whoever goes to a rung, also to its own.
func TestFailedTries(t *testing.T) {
	s := systemWith(guard("a", rungAs("a", "b", "a", 3, 1), rungAs("b", "", "a", 4, 1)))
	steps := func(want api.Status, l ...api.Event) {
		t.Helper()
		list, e := Run(s, l)
		isStatus(t, "Run", list[len(list)-1], e, want, api.OK)
	}
	failed := func(rung, n int) api.Status { return statusWith([]int{rung}, []int{n}) }
	steps(failed(0, 1), fail(0))
	steps(failed(0, 2), fail(0), fail(0))
	steps(failed(0, 0), fail(0), fail(0), fail(0))
	steps(failed(0, 1), fail(0), fail(0), fail(0), fail(0))
	steps(failed(0, 0), fail(0), fail(0), lost(0))
	steps(failed(1, 0), fail(0), fail(0), win(0))
	steps(failed(1, 3), win(0), fail(0), fail(0), fail(0))
	steps(failed(1, 3), win(0), fail(0), fail(0), fail(0), win(0), win(0))
	steps(failed(0, 0), win(0), fail(0), fail(0), fail(0), win(0), fail(0))
	steps(failed(0, 0), win(0), fail(0), lost(0))
}

// P4.2: guards drop one after the other, as far as they must, and those after them because of that.
func TestDrops(t *testing.T) {
	s := systemWith(
		guard("a", rungAs("a0", "a1", "a0", 2, 1), rungAs("a1", "a2", "a0", 2, 1), rungAs("a2", "", "a1", 2, 1)),
		guard("b", rungAs("b0", "b1", "b0", 2, 1), rungAs("b1", "b2", "b0", 2, 1, needs(0, "a1", "a2")), rungAs("b2", "b3", "b1", 2, 1, needs(0, "a2")), rungAs("b3", "", "b2", 2, 1, needs(0, "a2"))),
		guard("c", rungAs("c0", "c2", "c0", 2, 1), rungAs("c1", "", "c0", 2, 1, needs(0, "a0", "a1"), needs(1, "b0", "b1")), rungAs("c2", "", "c1", 2, 1, needs(1, "b1", "b3"))),
	)
	for _, c := range []struct {
		x    api.Status
		v    api.Event
		want api.Status
	}{
		// b drops by two rungs, and stays where its need holds again; c need not drop.
		{at(2, 3, 2), fail(0), statusWith([]int{2, 3, 2}, []int{1, 0, 0})},
		{statusWith([]int{2, 3, 2}, []int{1, 1, 1}), fail(0), statusWith([]int{1, 1, 2}, []int{0, 0, 1})},
		// b drops to its beginning, so that c drops to a rung whose needs hold.
		{statusWith([]int{2, 3, 2}, []int{1, 1, 1}), lost(0), at(0, 0, 1)},
		// c drops because of b, over a rung whose need of a does not hold.
		{statusWith([]int{2, 3, 2}, []int{1, 1, 1}), fail(1), statusWith([]int{2, 2, 0}, []int{1, 0, 0})},
		// A win leads to a rung whose needs do not hold: the guard drops from there.
		{at(1, 0, 0), win(2), at(1, 0, 1)},
		{at(2, 0, 0), win(2), at(2, 0, 0)},
		{statusWith([]int{2, 0, 0}, []int{0, 0, 1}), win(2), at(2, 0, 0)},
		{at(1, 1, 0), win(1), at(1, 1, 0)},
		{statusWith([]int{1, 1, 0}, []int{0, 1, 0}), win(1), at(1, 1, 0)},
		// A win makes another guard drop.
		{statusWith([]int{1, 1, 1}, []int{1, 1, 1}), win(0), statusWith([]int{2, 1, 0}, []int{0, 1, 0})},
	} {
		x, e := Move(s, c.x, c.v)
		isStatus(t, key(c.x)+key(statusWith([]int{c.v.Guard}, []int{c.v.Kind})), x, e, c.want, api.OK)
	}
}

func wrongEvents() []api.Event {
	return []api.Event{{Guard: -1}, {Guard: 2}, {Guard: 1 << 62}, {Guard: -1 << 63}, {Kind: -1}, {Kind: 3}, {Kind: 1 << 62}, {Guard: 1, Kind: 3}, {Guard: 2, Kind: 3}}
}

// P4.2: the errors of events.
func TestEventErrors(t *testing.T) {
	s := example()
	for _, v := range wrongEvents() {
		x, e := Move(s, at(0, 0), v)
		isStatus(t, "Move", x, e, api.Status{}, api.ErrEvent)
		for _, l := range [][]api.Event{events(v), events(win(0), win(0), v), events(v, win(0)), append(slices.Repeat(events(win(0)), 255), v)} {
			list, e := Run(s, l)
			isStatuses(t, "Run", list, e, nil, api.ErrEvent)
			n, e := Minutes(s, l)
			is(t, "Minutes", n, e, 0, api.ErrEvent)
		}
		many := slices.Repeat(events(v), 257)
		list, e := Run(s, many)
		isStatuses(t, "Run", list, e, nil, api.ErrLimit)
		n, e := Minutes(s, many)
		is(t, "Minutes", n, e, 0, api.ErrLimit)
	}
	list, e := Run(s, slices.Repeat(events(win(0)), 256))
	if len(list) != 256 || e != api.OK || !sameStatus(list[255], at(2, 0)) {
		t.Errorf("256 events: %d, %d", len(list), e)
	}
	n, e := Minutes(s, slices.Repeat(events(win(0)), 256))
	is(t, "Minutes", n, e, 1+5+254*10, api.OK)
	list, e = Run(s, slices.Repeat(events(win(0)), 257))
	isStatuses(t, "Run", list, e, nil, api.ErrLimit)
	n, e = Minutes(s, slices.Repeat(events(win(0)), 257))
	is(t, "Minutes", n, e, 0, api.ErrLimit)
}

// The chapter's examples of events.
func TestRunExamples(t *testing.T) {
	s := example()
	list, e := Run(s, events(win(0), fail(0), fail(0)))
	isStatuses(t, "Run", list, e, []api.Status{at(1, 0), statusWith([]int{1, 0}, []int{1, 0}), at(0, 0)}, api.OK)
	list, e = Run(s, events(win(0), win(0), win(1), lost(0)))
	isStatuses(t, "Run", list, e, []api.Status{at(1, 0), at(2, 0), at(2, 1), at(0, 0)}, api.OK)
	list, e = Run(s, events(win(1)))
	isStatuses(t, "Run", list, e, []api.Status{at(0, 0)}, api.OK)
}

// P4.2: the minutes are those of the guards of the events, where they are before them.
func TestMinutes(t *testing.T) {
	s := example()
	for _, c := range []struct {
		l    []api.Event
		want int
	}{
		{events(win(0)), 1}, {events(win(1)), 2}, {events(win(1), win(1)), 4}, {events(win(0), win(0), win(0)), 16},
		{events(win(0), fail(0), fail(0), fail(0)), 12}, {events(win(0), win(0), win(1), win(1)), 11}, {events(win(0), win(0), win(1), lost(0), win(1)), 20},
	} {
		n, e := Minutes(s, c.l)
		is(t, "Minutes", n, e, c.want, api.OK)
	}
}

// P4.3: whether all guards are at goals.
func TestGoals(t *testing.T) {
	for _, c := range []struct {
		s    api.System
		x    api.Status
		want bool
	}{
		{example(), at(0, 0), false}, {example(), at(2, 0), false}, {example(), at(2, 1), true},
		{withNeeds(), at(0, 1), false}, {withNeeds(), at(2, 1), true},
		{systemWith(guard("a", rungAs("a", "", "a", 2, 1))), statusWith([]int{0}, []int{1}), true},
		{systemWith(guard("a", rungAs("a", "", "a", 2, 1), rungAs("b", "a", "a", 1, 1), rungAs("c", "", "a", 1, 1))), at(1), false},
		{systemWith(guard("a", rungAs("a", "", "a", 2, 1), rungAs("b", "a", "a", 1, 1), rungAs("c", "", "a", 1, 1))), at(2), true},
	} {
		got, e := Goals(c.s, c.x)
		is(t, "Goals of "+key(c.x), got, e, c.want, api.OK)
	}
}

// P4.8: the loops of all guards, in their order, also those that several close.
func TestClosed(t *testing.T) {
	s := example()
	down := []api.Closing{{Loop: 1, Gain: "1/2"}, {Loop: 5, Gain: "-3"}}
	green := []api.Closing{{Loop: 0, Gain: "7"}}
	full := []api.Closing{{Loop: 0, Gain: "2"}, {Loop: 1, Gain: "1/2"}, {Loop: 7, Gain: "0"}}
	s.Guards[0].Rungs[0].Loops, s.Guards[0].Rungs[1].Loops, s.Guards[1].Rungs[1].Loops = down, green, full
	s.Guards[1].Rungs[1].Needs = nil
	for _, c := range []struct {
		x    api.Status
		want []api.Closing
	}{
		{at(0, 0), down}, {at(1, 0), green}, {at(2, 0), nil}, {at(2, 1), full}, {at(0, 1), slices.Concat(down, full)}, {at(1, 1), slices.Concat(green, full)}, {statusWith([]int{1, 1}, []int{1, 0}), slices.Concat(green, full)},
	} {
		got, e := Closed(s, c.x)
		isList(t, "Closed at "+key(c.x), got, e, c.want, api.OK)
	}
}

// P4.2, P4.3, P4.8, P4.10: random runs are as the definitions say, and reach only statuses of the system.
func TestRunsLaw(t *testing.T) {
	r := rand.New(rand.NewSource(4))
	for range 300 {
		s := randomSystem(r, 8, 4)
		l := randomEvents(r, s, 100)
		list := must[[]api.Status](t)(Run(s, l))
		x, minutes := must[api.Status](t)(Start(s)), 0
		for i, v := range l {
			minutes += s.Guards[v.Guard].Rungs[x.At[v.Guard]].Minutes
			y := modelMove(s, x, v)
			moved, e := Move(s, x, v)
			isStatus(t, "Move", moved, e, y, api.OK)
			if !sameStatus(list[i], y) || CheckStatus(s, y) != api.OK || !modelIsStatus(s, y) {
				t.Fatalf("%v, %v: %v, not %v", s, l[:i+1], list[i], y)
			}
			x = y
			goals, e := Goals(s, x)
			is(t, "Goals", goals, e, modelGoals(s, x), api.OK)
			var loops []api.Closing
			for k, g := range s.Guards {
				loops = append(loops, g.Rungs[x.At[k]].Loops...)
			}
			closed, e := Closed(s, x)
			isList(t, "Closed", closed, e, loops, api.OK)
		}
		n, e := Minutes(s, l)
		is(t, "Minutes", n, e, minutes, api.OK)
	}
}
