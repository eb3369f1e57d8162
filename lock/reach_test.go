package lock

import (
	"math/rand"
	"slices"
	"testing"

	"ringdown/api"
)

// P4.3: the chapter's example, systems of which all is reached, and such that fall back before they could reach more.
func TestCount(t *testing.T) {
	narrow := systemWith(
		guard("a", rungAs("a", "b", "a", 1, 1), rungAs("b", "", "a", 1, 1), rungAs("c", "", "a", 1, 1)),
		guard("b", rungAs("a", "b", "a", 4, 1), rungAs("b", "", "a", 4, 1, needs(0, "c"))),
	)
	backOnly := systemWith(guard("a", rungAs("a", "c", "a", 1, 1), rungAs("b", "", "a", 1, 1), rungAs("c", "", "b", 4, 1)))
	for _, c := range []struct {
		s    api.System
		want int
	}{
		{example(), 4}, {withNeeds(), 6}, {withNeeds(needs(0, "down", "held")), 5}, {largest(), 512}, {narrow, 2}, {backOnly, 3},
		{systemWith(guard("a", rungAs("a", "", "a", 4, 1))), 1},
		{systemWith(guard("a", rungAs("a", "", "a", 4, 1), rungAs("b", "a", "a", 4, 1))), 1},
	} {
		n, e := Count(c.s)
		is(t, "Count", n, e, c.want, api.OK)
	}
}

// P4.4: the chapter's examples, and places that are met at the beginning.
func TestMeet(t *testing.T) {
	s := example()
	for _, c := range []struct {
		a, b [2]int
		want []api.Event
		e    api.Errno
	}{
		{[2]int{0, 0}, [2]int{1, 1}, nil, api.ErrNone},
		{[2]int{1, 1}, [2]int{0, 0}, nil, api.ErrNone},
		{[2]int{0, 1}, [2]int{1, 1}, nil, api.ErrNone},
		{[2]int{0, 2}, [2]int{1, 1}, events(win(0), win(0), win(1)), api.OK},
		{[2]int{1, 1}, [2]int{0, 2}, events(win(0), win(0), win(1)), api.OK},
		{[2]int{0, 0}, [2]int{1, 0}, nil, api.OK},
		{[2]int{1, 0}, [2]int{0, 1}, events(win(0)), api.OK},
		{[2]int{1, 0}, [2]int{0, 2}, events(win(0), win(0)), api.OK},
	} {
		got, e := Meet(s, c.a, c.b)
		isList(t, "Meet", got, e, c.want, c.e)
	}
}

// P4.4: of the shortest runs the first one, by guard before kind.
func TestMeetFirst(t *testing.T) {
	free := withNeeds()
	got, e := Meet(free, [2]int{1, 1}, [2]int{0, 1})
	isList(t, "Meet", got, e, events(win(0), win(1)), api.OK)
	// b is reached by the fall from c, and falls of guard 1 come before wins of guard 2.
	ladder := []api.Rung{rungAs("a", "c", "a", 1, 1), rungAs("b", "", "a", 1, 1), rungAs("c", "", "b", 1, 1)}
	s := systemWith(guard("x", ladder...), guard("y", ladder...), guard("z", ladder...))
	got, e = Meet(s, [2]int{2, 2}, [2]int{1, 1})
	isList(t, "Meet", got, e, events(win(1), fail(1), win(2)), api.OK)
	got, e = Meet(s, [2]int{1, 1}, [2]int{0, 1})
	isList(t, "Meet", got, e, events(win(0), fail(0), win(1), fail(1)), api.OK)
	// From a all three kinds lead to b within two events: wins come first.
	s = systemWith(guard("x", rungAs("a", "b", "a", 1, 1), rungAs("b", "c", "a", 1, 1), rungAs("c", "", "b", 1, 1)), guard("y", rungAs("a", "", "a", 1, 1)))
	got, e = Meet(s, [2]int{0, 2}, [2]int{1, 0})
	isList(t, "Meet", got, e, events(win(0), win(0)), api.OK)
}

// P4.4: a run may need failed tries, and more events than a run that is asked for may have.
func TestMeetLong(t *testing.T) {
	s := systemWith(guard("x", rungAs("a", "c", "a", 4, 1), rungAs("b", "", "a", 4, 1), rungAs("c", "", "b", 4, 1)), guard("y", rungAs("a", "", "a", 1, 1)))
	got, e := Meet(s, [2]int{0, 1}, [2]int{1, 0})
	isList(t, "Meet", got, e, events(win(0), fail(0), fail(0), fail(0), fail(0)), api.OK)
	got, e = Meet(largest(), [2]int{2, 7}, [2]int{0, 7})
	isList(t, "Meet", got, e, slices.Concat(slices.Repeat(events(win(0)), 7), slices.Repeat(events(win(2)), 7)), api.OK)
}

// P4.4: ErrArg unless there are two different guards, and such rungs.
func TestMeetErrors(t *testing.T) {
	s, good := example(), [2]int{0, 2}
	for _, wrong := range [][2]int{{0, 2}, {0, 0}, {0, 1}, {0, -1}, {1, 2}, {1, -1}, {2, 0}, {-1, 0}, {1 << 62, 0}, {1, 1 << 62}, {-1 << 63, -1 << 63}} {
		got, e := Meet(s, good, wrong)
		isList(t, "Meet", got, e, nil, api.ErrArg)
		got, e = Meet(s, wrong, good)
		isList(t, "Meet", got, e, nil, api.ErrArg)
	}
	got, e := Meet(systemWith(guard("a", rungAs("a", "", "a", 1, 1))), [2]int{0, 0}, [2]int{0, 0})
	isList(t, "Meet", got, e, nil, api.ErrArg)
}

// P4.5: the chapter's example, and statuses from which wins lead nowhere.
func TestClimb(t *testing.T) {
	free := withNeeds()
	odd := systemWith(
		guard("a", rungAs("a", "b", "a", 1, 1), rungAs("b", "", "a", 1, 1)),
		guard("b", rungAs("a", "b", "a", 1, 1), rungAs("b", "c", "a", 1, 1, needs(0, "a")), rungAs("c", "", "b", 1, 1)),
	)
	stuck := systemWith(
		guard("a", rungAs("a", "b", "a", 1, 1), rungAs("b", "", "a", 1, 1)),
		guard("b", rungAs("a", "b", "a", 1, 1), rungAs("b", "", "a", 1, 1, needs(0, "a"))),
	)
	for _, c := range []struct {
		s    api.System
		x    api.Status
		want []api.Event
		e    api.Errno
	}{
		{example(), at(0, 0), events(win(0), win(0), win(1)), api.OK},
		{example(), statusWith([]int{1, 0}, []int{1, 0}), events(win(0), win(1)), api.OK},
		{example(), at(2, 0), events(win(1)), api.OK},
		{example(), at(2, 1), nil, api.OK},
		{free, at(0, 0), events(win(0), win(0), win(1)), api.OK},
		{free, at(0, 1), events(win(0), win(0)), api.OK},
		// b goes first, while a is where b needs it.
		{odd, at(0, 0), events(win(1), win(1), win(0)), api.OK},
		{odd, at(1, 0), nil, api.ErrNone},
		{odd, at(1, 2), nil, api.OK},
		{stuck, at(0, 0), nil, api.ErrNone},
		{stuck, at(0, 1), nil, api.ErrNone},
		{stuck, at(1, 0), nil, api.ErrNone},
		{systemWith(guard("a", rungAs("a", "", "a", 3, 1))), statusWith([]int{0}, []int{2}), nil, api.OK},
	} {
		got, e := Climb(c.s, c.x)
		isList(t, "Climb from "+key(c.x), got, e, c.want, c.e)
	}
}

// P4.3, P4.4, P4.5, P4.11, P4.12: as found by improving distances, for random systems.
func TestReachLaw(t *testing.T) {
	r := rand.New(rand.NewSource(5))
	for range 300 {
		s := randomSystem(r, 5, 3)
		g := reached(s)
		ways := map[string]bool{}
		for _, x := range g.statuses {
			ways[key(at(x.At...))] = true
			wins := graphOf(s, x, api.EventWin)
			want, wantError := wins.shortest(x, func(y api.Status) bool { return modelGoals(s, y) })
			if len(g.statuses) < 100 || r.Intn(len(g.statuses)) < 50 {
				got, e := Climb(s, x)
				isList(t, "Climb from "+key(x), got, e, want, wantError)
			}
		}
		n, e := Count(s)
		is(t, "Count", n, e, len(ways), api.OK)
		for range 6 {
			if len(s.Guards) == 1 {
				break
			}
			order := r.Perm(len(s.Guards))
			a := [2]int{order[0], r.Intn(len(s.Guards[order[0]].Rungs))}
			b := [2]int{order[1], r.Intn(len(s.Guards[order[1]].Rungs))}
			want, wantError := g.shortest(at(make([]int, len(s.Guards))...), func(x api.Status) bool { return x.At[a[0]] == a[1] && x.At[b[0]] == b[1] })
			got, e := Meet(s, a, b)
			isList(t, "Meet", got, e, want, wantError)
		}
	}
}

// P4.11, P4.12: what is found leads there; what is not found is met by no run.
func TestFoundRuns(t *testing.T) {
	r := rand.New(rand.NewSource(6))
	for range 60 {
		s := randomSystem(r, 8, 4)
		l := randomEvents(r, s, 256)
		x := must[[]api.Status](t)(Run(s, l))
		y := x[r.Intn(256)]
		if list, e := Climb(s, y); e == api.OK {
			for _, v := range list {
				if v.Kind != api.EventWin {
					t.Errorf("%v is no win", v)
				}
				y = must[api.Status](t)(Move(s, y, v))
			}
			if !must[bool](t)(Goals(s, y)) {
				t.Errorf("%v does not climb to goals of %v", list, s)
			}
		}
		if len(s.Guards) < 2 {
			continue
		}
		met := map[[2]int]bool{}
		for _, y := range x {
			met[[2]int{y.At[0], y.At[1]}] = true
		}
		for i := range s.Guards[0].Rungs {
			for k := range s.Guards[1].Rungs {
				list, e := Meet(s, [2]int{0, i}, [2]int{1, k})
				if e == api.ErrNone && met[[2]int{i, k}] {
					t.Errorf("%v: %d and %d are met", s, i, k)
				}
				if e != api.OK || len(list) == 0 || len(list) > 256 {
					continue
				}
				if end := must[[]api.Status](t)(Run(s, list)); end[len(end)-1].At[0] != i || end[len(end)-1].At[1] != k {
					t.Errorf("%v: %v does not meet %d and %d", s, list, i, k)
				}
			}
		}
	}
}
