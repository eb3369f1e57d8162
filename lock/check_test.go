package lock

import (
	"fmt"
	"math/rand"
	"reflect"
	"slices"
	"strings"
	"testing"

	"ringdown/api"
)

// change returns the example with a change.
func change(f func(*api.System)) api.System {
	s := example()
	f(&s)
	return s
}

// changeRung returns the example with a change of the rung green (the second of three).
func changeRung(f func(r *api.Rung)) api.System {
	return change(func(s *api.System) { f(&s.Guards[0].Rungs[1]) })
}

func withNeeds(list ...api.Need) api.System {
	return change(func(s *api.System) { s.Guards[1].Rungs[1].Needs = list })
}

func withLoops(list ...api.Closing) api.System {
	return changeRung(func(r *api.Rung) { r.Loops = list })
}

func withThird(list ...api.Need) api.System {
	return change(func(s *api.System) {
		s.Guards = append(s.Guards, guard("third", rungAs("a", "b", "a", 1, 1), rungAs("b", "", "a", 1, 1, list...)))
	})
}

func closings(loops ...int) []api.Closing {
	var list []api.Closing
	for _, l := range loops {
		list = append(list, api.Closing{Loop: l, Gain: "1"})
	}
	return list
}

func validSystems() []api.System {
	list := []api.System{
		example(), largest(),
		systemWith(guard("a", rungAs("a", "", "a", 1, 1))),
		systemWith(guard("a23456789012345_", rungAs("b23456789012345_", "", "b23456789012345_", 4, 60))),
		// Next may skip rungs and go back, several may have the same Next, and there may be several goals, also the first rung.
		systemWith(guard("a", rungAs("a", "c", "a", 1, 1), rungAs("b", "", "a", 1, 1), rungAs("c", "b", "a", 1, 1), rungAs("d", "b", "c", 1, 1), rungAs("e", "", "b", 1, 1))),
		systemWith(guard("a", rungAs("a", "", "a", 1, 1), rungAs("b", "a", "a", 1, 1))),
		changeRung(func(r *api.Rung) { r.Next = "" }),
		withNeeds(), withNeeds(needs(0, "down")), withNeeds(needs(0, "down", "held")), withNeeds(needs(0, "down", "green", "held")),
		withThird(), withThird(needs(0, "held")), withThird(needs(1, "low")), withThird(needs(0, "down", "green"), needs(1, "low", "full")),
		withLoops(closings(0, 1, 2, 3, 4, 5, 6, 7)...), withLoops(closings(7)...), withLoops(closings(0, 7)...),
		change(func(s *api.System) { s.Guards[0].Rungs[0].Loops = closings(1, 3) }),
		// Names of guards and rungs have nothing to do with each other.
		change(func(s *api.System) { s.Guards[0].Name = "down" }),
		change(func(s *api.System) {
			s.Guards[1].Rungs[0].Name, s.Guards[1].Rungs[0].Back, s.Guards[1].Rungs[1].Back = "held", "held", "held"
		}),
		change(func(s *api.System) { s.Guards[1].Name = "held" }),
	}
	for _, gain := range []api.Num{"0", "4096", "-4096", "1/4096", "-4095/4096"} {
		list = append(list, withLoops(api.Closing{Loop: 3, Gain: gain}))
	}
	for _, n := range []int{1, 2, 3, 4} {
		list = append(list, changeRung(func(r *api.Rung) { r.Tries = n }))
	}
	for _, n := range []int{1, 2, 59, 60} {
		list = append(list, changeRung(func(r *api.Rung) { r.Minutes = n }))
	}
	return list
}

func wrongSystems() []api.System {
	list := []api.System{
		{}, systemWith(), {Guards: []api.Guard{}}, systemWith(guard("a")), systemWith(api.Guard{Name: "a", Rungs: []api.Rung{{}}}), {Guards: make([]api.Guard, 3)}, {Guards: make([]api.Guard, 1000)},
		change(func(s *api.System) { s.Guards[1].Rungs = nil }),
		change(func(s *api.System) { s.Guards[0].Rungs, s.Guards[1].Rungs[1].Needs = nil, nil }),
		change(func(s *api.System) { s.Guards[1].Name = "arm" }),
		change(func(s *api.System) {
			for _, name := range []string{"x", "y"} {
				s.Guards = append(s.Guards, guard(name, rungAs("a", "", "a", 1, 1)))
			}
		}),
		change(func(s *api.System) {
			for _, name := range []string{"r3", "r4", "r5", "r6", "r7", "r8"} {
				s.Guards[0].Rungs = append(s.Guards[0].Rungs, rungAs(name, "", "down", 1, 1))
			}
		}),
		// Two rungs of the guard have the same name.
		change(func(s *api.System) { s.Guards[0].Rungs = append(s.Guards[0].Rungs, rungAs("held", "", "green", 1, 10)) }),
		change(func(s *api.System) {
			s.Guards[0].Rungs = append(s.Guards[0].Rungs, rungAs("down", "held", "down", 1, 1))
		}),
		change(func(s *api.System) { s.Guards[1].Rungs = append(s.Guards[1].Rungs, rungAs("full", "", "low", 1, 1)) }),
		// Next is none of the guard, or leads into a circle.
		changeRung(func(r *api.Rung) { r.Next = "full" }),
		changeRung(func(r *api.Rung) { r.Next = "arm" }),
		changeRung(func(r *api.Rung) { r.Next = "green" }),
		changeRung(func(r *api.Rung) { r.Next = "down" }),
		changeRung(func(r *api.Rung) { r.Next = "heldd" }),
		changeRung(func(r *api.Rung) { r.Next = "-" }),
		change(func(s *api.System) { s.Guards[0].Rungs[2].Next = "down" }),
		change(func(s *api.System) { s.Guards[0].Rungs[2].Next = "held" }),
		change(func(s *api.System) { s.Guards[0].Rungs[0].Next = "down" }),
		change(func(s *api.System) { s.Guards[0].Rungs[2].Next = "x" }),
		systemWith(guard("a", rungAs("a", "", "a", 1, 1), rungAs("b", "c", "a", 1, 1), rungAs("c", "b", "a", 1, 1))),
		systemWith(guard("a", rungAs("a", "b", "a", 1, 1), rungAs("b", "c", "a", 1, 1), rungAs("c", "b", "a", 1, 1), rungAs("d", "", "a", 1, 1))),
		// Back is not the first rung itself, or no earlier one.
		change(func(s *api.System) { s.Guards[0].Rungs[0].Back = "green" }),
		change(func(s *api.System) { s.Guards[0].Rungs[0].Back = "held" }),
		change(func(s *api.System) { s.Guards[0].Rungs[0].Back = "" }),
		change(func(s *api.System) { s.Guards[0].Rungs[0].Back = "low" }),
		changeRung(func(r *api.Rung) { r.Back = "green" }),
		changeRung(func(r *api.Rung) { r.Back = "held" }),
		changeRung(func(r *api.Rung) { r.Back = "" }),
		changeRung(func(r *api.Rung) { r.Back = "low" }),
		changeRung(func(r *api.Rung) { r.Back = "arm" }),
		// Needs of the first rung, of no earlier guard, out of order, or of no rungs.
		change(func(s *api.System) { s.Guards[1].Rungs[0].Needs = []api.Need{needs(0, "held")} }),
		change(func(s *api.System) { s.Guards[1].Rungs[0].Needs = []api.Need{needs(0, "down", "green", "held")} }),
		changeRung(func(r *api.Rung) { r.Needs = []api.Need{needs(0, "down")} }),
		changeRung(func(r *api.Rung) { r.Needs = []api.Need{needs(1, "low")} }),
		withNeeds(needs(1, "low")), withNeeds(needs(1, "full")), withNeeds(needs(2, "low")), withNeeds(needs(-1, "low")), withNeeds(needs(1<<62, "low")), withNeeds(needs(-1<<63, "low")),
		withNeeds(needs(0)), withNeeds(needs(0, "")), withNeeds(needs(0, "low")), withNeeds(needs(0, "held", "low")), withNeeds(needs(0, "arm")), withNeeds(needs(0, "x", "held")),
		withNeeds(needs(0, "held", "held")), withNeeds(needs(0, "held", "down")), withNeeds(needs(0, "down", "held", "green")), withNeeds(needs(0, "down", "green", "held", "held")),
		withNeeds(needs(0, "held"), needs(0, "held")), withNeeds(needs(0, "down"), needs(0, "held")),
		withThird(needs(1, "low"), needs(0, "held")), withThird(needs(2, "a")), withThird(needs(0, "held"), needs(1, "low"), needs(2, "a")), withThird(needs(0, "low"), needs(1, "low")), withThird(needs(0, "held"), needs(1, "held")), withThird(needs(0, "held"), needs(1)),
		// Loops out of order, and such as there are none.
		withLoops(closings(8)...), withLoops(closings(-1)...), withLoops(closings(1, 1)...), withLoops(closings(2, 1)...), withLoops(closings(0, 1, 2, 3, 4, 5, 6, 7, 8)...), withLoops(closings(0, 3, 2)...), withLoops(closings(1 << 62)...), withLoops(closings(make([]int, 1000)...)...),
		withLoops(api.Closing{Loop: 0, Gain: "1"}, api.Closing{Loop: 1}),
		change(func(s *api.System) { s.Guards[1].Rungs[1].Loops = closings(3, 3) }),
		change(func(s *api.System) { s.Guards[0].Rungs[0].Loops = closings(8) }),
	}
	long := api.Num(strings.Repeat("7", 2000))
	for _, gain := range []api.Num{"", "x", "i", "1+i", "1-1/2i", "4097", "-4097", "1/4097", "4097/4096", "2/4", "01", "+1", "1.0", "1/0", " 1", "18446744073709551617", long, "1/" + long, long + "7"} {
		list = append(list, withLoops(api.Closing{Loop: 3, Gain: gain}), withLoops(api.Closing{Loop: 0, Gain: "1"}, api.Closing{Loop: 3, Gain: gain}))
	}
	for _, n := range []int{0, -1, 5, 1 << 62, -1 << 63} {
		list = append(list, changeRung(func(r *api.Rung) { r.Tries = n }), change(func(s *api.System) { s.Guards[1].Rungs[1].Tries = n }))
	}
	for _, n := range []int{0, -1, 61, 1 << 62, -1 << 63} {
		list = append(list, changeRung(func(r *api.Rung) { r.Minutes = n }), change(func(s *api.System) { s.Guards[1].Rungs[1].Minutes = n }))
	}
	for _, name := range []string{"", "A", "1a", "_a", "a b", "a-b", "a2345678901234567", "ä", "a\x00", "\xff"} {
		list = append(list,
			change(func(s *api.System) { s.Guards[0].Name = name }),
			change(func(s *api.System) { s.Guards[1].Name = name }),
			change(func(s *api.System) {
				s.Guards[0].Rungs[2].Name, s.Guards[0].Rungs[1].Next, s.Guards[1].Rungs[1].Needs[0].Rungs[0] = name, name, name
			}),
			systemWith(guard("a", rungAs(name, "", name, 1, 1))),
		)
	}
	return list
}

// P4.1: systems that are valid.
func TestCheck(t *testing.T) {
	for i, s := range validSystems() {
		if e := Check(s); e != api.OK {
			t.Errorf("valid %d: %v: %d", i, s, e)
		}
	}
	for i, s := range wrongSystems() {
		if e := Check(s); e != api.ErrSystem {
			t.Errorf("wrong %d: %v: %d", i, s, e)
		}
	}
	r := rand.New(rand.NewSource(1))
	for range 500 {
		if s := randomSystem(r, 8, 4); Check(s) != api.OK {
			t.Errorf("%v: %d", s, Check(s))
		}
	}
}

// P4.1: ErrSystem comes before all other errors.
func TestSystemFirst(t *testing.T) {
	x, v := at(-1, -1), api.Event{Guard: -1, Kind: -1}
	many := slices.Repeat([]api.Event{v}, 257)
	for _, s := range wrongSystems() {
		is(t, "CheckStatus", 0, CheckStatus(s, x), 0, api.ErrSystem)
		status, e := Start(s)
		isStatus(t, "Start", status, e, api.Status{}, api.ErrSystem)
		status, e = Move(s, x, v)
		isStatus(t, "Move", status, e, api.Status{}, api.ErrSystem)
		list, e := Run(s, many)
		isStatuses(t, "Run", list, e, nil, api.ErrSystem)
		n, e := Minutes(s, many)
		is(t, "Minutes", n, e, 0, api.ErrSystem)
		yes, e := Goals(s, x)
		is(t, "Goals", yes, e, false, api.ErrSystem)
		n, e = Count(s)
		is(t, "Count", n, e, 0, api.ErrSystem)
		run, e := Meet(s, [2]int{-1, 0}, [2]int{-1, 0})
		isList(t, "Meet", run, e, nil, api.ErrSystem)
		run, e = Climb(s, x)
		isList(t, "Climb", run, e, nil, api.ErrSystem)
		n, e = Worst(s, -1, -1)
		is(t, "Worst", n, e, 0, api.ErrSystem)
		spot, e := Unsound(s, make([]api.Filter, 9))
		is(t, "Unsound", spot, e, api.Spot{}, api.ErrSystem)
		closed, e := Closed(s, x)
		isList(t, "Closed", closed, e, nil, api.ErrSystem)
	}
}

func wrongStatuses() []api.Status {
	return []api.Status{
		{}, at(), at(0), at(0, 0, 0), {At: []int{0, 0}}, {Failed: []int{0, 0}}, statusWith([]int{0, 0}, []int{0}), statusWith([]int{0}, []int{0, 0}), statusWith([]int{0, 0}, []int{0, 0, 0}), statusWith([]int{0, 0, 0}, []int{0, 0}),
		at(-1, 0), at(3, 0), at(0, -1), at(0, 2), at(1<<62, 0), at(-1<<63, 0),
		statusWith([]int{0, 0}, []int{1, 0}), statusWith([]int{1, 0}, []int{2, 0}), statusWith([]int{1, 0}, []int{-1, 0}), statusWith([]int{2, 0}, []int{1, 0}), statusWith([]int{0, 0}, []int{0, 1}), statusWith([]int{2, 1}, []int{0, 1}), statusWith([]int{1, 0}, []int{1 << 62, 0}),
		// The power is at full, but the arm is not at held.
		at(0, 1), at(1, 1), statusWith([]int{1, 1}, []int{1, 0}),
	}
}

// P4.1: statuses of a system, and ErrStatus before what follows.
func TestCheckStatus(t *testing.T) {
	s := example()
	for _, x := range []api.Status{at(0, 0), at(1, 0), at(2, 0), at(2, 1), statusWith([]int{1, 0}, []int{1, 0})} {
		is(t, key(x), 0, CheckStatus(s, x), 0, api.OK)
	}
	for _, x := range wrongStatuses() {
		is(t, key(x), 0, CheckStatus(s, x), 0, api.ErrStatus)
		status, e := Move(s, x, api.Event{Guard: 2, Kind: 3})
		isStatus(t, "Move", status, e, api.Status{}, api.ErrStatus)
		yes, e := Goals(s, x)
		is(t, "Goals", yes, e, false, api.ErrStatus)
		run, e := Climb(s, x)
		isList(t, "Climb", run, e, nil, api.ErrStatus)
		closed, e := Closed(s, x)
		isList(t, "Closed", closed, e, nil, api.ErrStatus)
	}
	// A need may be held by several rungs, and each of several needs must hold.
	s = withThird(needs(0, "down", "held"), needs(1, "low"))
	for x, want := range map[[3]int]api.Errno{{0, 0, 1}: api.OK, {2, 0, 1}: api.OK, {1, 0, 1}: api.ErrStatus, {2, 1, 1}: api.ErrStatus, {2, 1, 0}: api.OK} {
		is(t, fmt.Sprint(x), 0, CheckStatus(s, at(x[:]...)), 0, want)
	}
}

// P4.1: as the definition says, for all statuses and some that are none.
func TestCheckStatusOfAll(t *testing.T) {
	r := rand.New(rand.NewSource(2))
	for range 300 {
		s := randomSystem(r, 4, 3)
		for range 50 {
			var x api.Status
			for range s.Guards {
				x.At, x.Failed = append(x.At, r.Intn(5)-r.Intn(20)/19), append(x.Failed, r.Intn(3)-r.Intn(20)/19)
			}
			if got := CheckStatus(s, x) == api.OK; got != modelIsStatus(s, x) {
				t.Fatalf("%v, %v: %v", s, x, got)
			}
		}
	}
}

// results calls all functions, and returns what they return.
func results(s api.System, x api.Status, l []api.Event, f []api.Filter) []any {
	var all []any
	keep := func(values ...any) { all = append(all, values...) }
	two := func(a any, e api.Errno) { keep(a, e) }
	keep(Check(s), CheckStatus(s, x))
	two(Start(s))
	two(Move(s, x, l[0]))
	two(Run(s, l))
	two(Minutes(s, l))
	two(Goals(s, x))
	two(Count(s))
	two(Meet(s, [2]int{0, 0}, [2]int{1, len(s.Guards[1].Rungs) - 1}))
	two(Climb(s, x))
	two(Worst(s, 0, 3))
	two(Unsound(s, f))
	two(Closed(s, x))
	return all
}

// spoil overwrites all lists of results.
func spoil(all []any) {
	for _, a := range all {
		switch l := a.(type) {
		case []api.Event:
			for i := range l {
				l[i] = api.Event{Guard: 77, Kind: 77}
			}
		case []api.Closing:
			for i := range l {
				l[i] = api.Closing{Loop: 77, Gain: "spoilt"}
			}
		case api.Status:
			for i := range l.At {
				l.At[i], l.Failed[i] = 77, 78
			}
			_ = append(l.At, 77)
		case []api.Status:
			for _, x := range l {
				spoil([]any{x})
			}
		}
	}
}

// P4.9, P1, P2: arguments are neither changed nor kept, and results are the same each time, whatever is done with those before.
func TestArgumentsAndResults(t *testing.T) {
	r := rand.New(rand.NewSource(3))
	for range 100 {
		s := randomSystem(r, 4, 3)
		if len(s.Guards) < 2 {
			continue
		}
		l, f := randomEvents(r, s, 20), filters()
		x := must[[]api.Status](t)(Run(s, l))[19]
		sCopy, xCopy, lCopy := cloneSystem(s), cloneStatus(x), slices.Clone(l)
		unchanged := func() bool {
			return reflect.DeepEqual(s, sCopy) && sameStatus(x, xCopy) && slices.Equal(l, lCopy) && reflect.DeepEqual(f, filters())
		}
		s = cloneSystem(s)
		first := results(s, x, l, f)
		if !unchanged() {
			t.Fatalf("%v, %v, %v: arguments were changed", sCopy, xCopy, lCopy)
		}
		spoil(first)
		if !unchanged() {
			t.Fatalf("%v, %v, %v: results share memory with arguments", sCopy, xCopy, lCopy)
		}
		if second, third := results(s, x, l, f), results(sCopy, xCopy, lCopy, filters()); !reflect.DeepEqual(second, third) {
			t.Fatalf("%v, %v", second, third)
		}
	}
}

// P4.9: the statuses of a run share no memory with each other, nor do the lists of a status.
func TestStatusesShareNothing(t *testing.T) {
	s, l := example(), events(win(0), fail(0), win(0), win(0))
	list := must[[]api.Status](t)(Run(s, l))
	for i := range list {
		fresh := must[[]api.Status](t)(Run(s, l))
		spoil([]any{list[i]})
		if _ = append(list[i].At, 5, 5, 5); !slices.EqualFunc(list[i+1:], fresh[i+1:], sameStatus) || !slices.Equal(list[i].Failed, []int{78, 78}) {
			t.Errorf("status %d: %v", i, list)
		}
	}
}

// P1: nil and empty arguments are the same.
func TestNilAndEmpty(t *testing.T) {
	s := example()
	for _, none := range [][]api.Event{nil, {}} {
		list, e := Run(s, none)
		isStatuses(t, "Run", list, e, nil, api.OK)
		n, e := Minutes(s, none)
		is(t, "Minutes", n, e, 0, api.OK)
	}
	for _, none := range [][]api.Filter{nil, {}} {
		spot, e := Unsound(s, none)
		is(t, "Unsound", spot, e, api.Spot{}, api.ErrNone)
	}
	t1 := cloneSystem(s)
	for i := range t1.Guards {
		for k := range t1.Guards[i].Rungs {
			if rung := &t1.Guards[i].Rungs[k]; rung.Needs == nil {
				rung.Needs, rung.Loops = []api.Need{}, []api.Closing{}
			}
		}
	}
	is(t, "Check", 0, Check(t1), 0, api.OK)
	is(t, "CheckStatus", 0, CheckStatus(t1, at(2, 1)), 0, api.OK)
}
