package lock

import (
	"math/rand"
	"testing"

	"ringdown/api"
)

// P4.6: the chapter's examples, and others that are calculated by hand.
func TestWorst(t *testing.T) {
	atGoal := systemWith(guard("a", rungAs("a", "", "a", 1, 60), rungAs("b", "a", "a", 1, 1)))
	// With two events it is worse to fail twice at c, and to fall back to b, than to lose the lock twice.
	detour := systemWith(guard("a", rungAs("a", "c", "a", 1, 1), rungAs("b", "c", "a", 1, 50), rungAs("c", "d", "b", 2, 3), rungAs("d", "", "c", 1, 1)))
	for _, c := range []struct {
		s                api.System
		guard, bad, want int
	}{
		{example(), 0, 0, 6}, {example(), 0, 1, 12}, {example(), 1, 3, 8}, {example(), 1, 0, 2},
		// After a failed try at green the lock is lost there: 1, 5, 5, 1, 5.
		{example(), 0, 2, 18}, {example(), 0, 8, 54},
		{atGoal, 0, 0, 0}, {atGoal, 0, 8, 0},
		{detour, 0, 0, 4}, {detour, 0, 1, 8}, {detour, 0, 2, 1 + 3 + 3 + 50 + 3}, {detour, 0, 3, 1 + 3 + 3 + 50 + 3 + 1 + 3},
		{largest(), 0, 0, 7 * 60}, {largest(), 2, 8, 9 * 7 * 60},
	} {
		n, e := Worst(c.s, c.guard, c.bad)
		is(t, "Worst", n, e, c.want, api.OK)
	}
}

// P4.6: ErrArg comes before ErrRange.
func TestWorstErrors(t *testing.T) {
	s := example()
	for _, guard := range []int{-1, 2, 3, 1 << 62, -1 << 63} {
		for _, bad := range []int{0, 8, -1, 9} {
			n, e := Worst(s, guard, bad)
			is(t, "Worst", n, e, 0, api.ErrArg)
		}
	}
	for _, bad := range []int{-1, 9, 1 << 62, -1 << 63} {
		for guard := range 2 {
			n, e := Worst(s, guard, bad)
			is(t, "Worst", n, e, 0, api.ErrRange)
		}
	}
}

// P4.6, P4.12: the greatest sum of all lists of events; more events that go wrong never make it less.
func TestWorstLaw(t *testing.T) {
	r := rand.New(rand.NewSource(7))
	for range 200 {
		s := randomSystem(r, 5, 3)
		for i, g := range s.Guards {
			before := 0
			for bad := range 9 {
				n, e := Worst(s, i, bad)
				if bad <= 3 {
					is(t, "Worst", n, e, modelWorst(g, 0, 0, bad), api.OK)
				}
				if n < before || e != api.OK {
					t.Errorf("%v, %d: %d is less than %d", g, bad, n, before)
				}
				before = n
			}
		}
	}
}

// P4.12: a guard without needs is at a goal in time, however those events that go wrong are spread, and some lists take all of it.
func TestWorstOfRuns(t *testing.T) {
	r := rand.New(rand.NewSource(8))
	attained, many := 0, 0
	for range 100 {
		g := randomSystem(r, 5, 3).Guards[0]
		s := systemWith(g)
		bad := r.Intn(4)
		worst := must[int](t)(Worst(s, 0, bad))
		most := 0
		for range 200 {
			var l []api.Event
			x, wrong := must[api.Status](t)(Start(s)), 0
			for !must[bool](t)(Goals(s, x)) {
				v := win(0)
				if wrong < bad && r.Intn(3) > 0 {
					wrong++
					v = pick(r, fail(0), lost(0))
				}
				l = append(l, v)
				x = must[api.Status](t)(Move(s, x, v))
			}
			most = max(most, must[int](t)(Minutes(s, l)))
		}
		if most > worst {
			t.Errorf("%v, %d: %d minutes, more than %d", g, bad, most, worst)
		}
		many++
		if most == worst {
			attained++
		}
	}
	if attained < many/2 {
		t.Errorf("the worst is attained for %d of %d only", attained, many)
	}
}
