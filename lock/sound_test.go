package lock

import (
	"fmt"
	"math/rand"
	"slices"
	"testing"

	"ringdown/api"
	"ringdown/loop"
	"ringdown/num"
)

func filterOf(in, out []api.Num) api.Filter { return api.Filter{In: in, Out: out} }

// half closes a loop that is stable with gains greater than -1 and less than 3.
func half() api.Filter { return filterOf([]api.Num{"0", "1/2"}, []api.Num{"1", "-1/2"}) }

// straight closes a loop that is stable with all gains but -1, with which there is none.
func straight() api.Filter { return filterOf([]api.Num{"1"}, []api.Num{"1"}) }

// twice closes a loop that is stable with gains greater than -1 and less than 1.
func twice() api.Filter { return filterOf([]api.Num{"0", "0", "1"}, []api.Num{"1"}) }

func filters() []api.Filter { return []api.Filter{half(), straight(), twice()} }

// ladderOf has rungs from the first one on to the last one, with gains of loops; each falls back to the one before it.
func ladderOf(name string, gains ...map[int]api.Num) api.Guard {
	g := guard(name)
	for i, m := range gains {
		r := rungAs(fmt.Sprint("r", i), fmt.Sprint("r", i+1), fmt.Sprint("r", max(i-1, 0)), 1, 1)
		if i == len(gains)-1 {
			r.Next = ""
		}
		g.Rungs = append(g.Rungs, closing(r, m))
	}
	return g
}

type gains = map[int]api.Num

func spotAt(guard, rung, loop int) api.Spot {
	return api.Spot{Guard: guard, Rung: rung, Loop: loop}
}

// P4.7: loops that are not stable in a rung, or not certain on the way to Next or to Back.
func TestUnsound(t *testing.T) {
	// a and b are joined by Next of b alone, by Back of b alone, and not at all (but by way of a).
	byNext := systemWith(guard("x", rungAs("o", "", "o", 1, 1), closing(rungAs("a", "", "o", 1, 1), gains{1: "-2"}), closing(rungAs("b", "a", "o", 1, 1), gains{1: "0"})))
	byBack := systemWith(guard("x", rungAs("o", "", "o", 1, 1), closing(rungAs("a", "", "o", 1, 1), gains{1: "-2"}), closing(rungAs("b", "", "a", 1, 1), gains{1: "0"})))
	apart := systemWith(guard("x", rungAs("o", "", "o", 1, 1), closing(rungAs("a", "", "o", 1, 1), gains{1: "-2"}), closing(rungAs("b", "", "o", 1, 1), gains{1: "0"})))
	for _, c := range []struct {
		what string
		s    api.System
		want api.Spot
		e    api.Errno
	}{
		{"no loops", example(), api.Spot{}, api.ErrNone},
		{"stable", systemWith(ladderOf("x", gains{0: "0"}, gains{0: "5/2"}, gains{0: "-1/2"})), api.Spot{}, api.ErrNone},
		{"not stable at first", systemWith(ladderOf("x", gains{0: "3"}, gains{0: "1"})), spotAt(0, 0, 0), api.OK},
		{"not stable alone", systemWith(ladderOf("x", gains{}, gains{0: "3"}, gains{})), spotAt(0, 1, 0), api.OK},
		{"not stable at the goal", systemWith(ladderOf("x", gains{}, gains{}, gains{0: "-1"})), spotAt(0, 2, 0), api.OK},
		{"not certain to Next", systemWith(ladderOf("x", gains{1: "-2"}, gains{1: "0"})), spotAt(0, 0, 1), api.OK},
		{"not certain to Next, downwards", systemWith(ladderOf("x", gains{1: "0"}, gains{1: "-2"})), spotAt(0, 0, 1), api.OK},
		{"to Next that is not stable", systemWith(ladderOf("x", gains{0: "1"}, gains{0: "3"})), spotAt(0, 0, 0), api.OK},
		{"certain to Next", systemWith(ladderOf("x", gains{1: "-2"}, gains{1: "-3/2"}, gains{1: "-4"})), api.Spot{}, api.ErrNone},
		{"by Next alone", byNext, spotAt(0, 2, 1), api.OK},
		{"by Back alone", byBack, spotAt(0, 2, 1), api.OK},
		{"not joined", apart, api.Spot{}, api.ErrNone},
		{"opened between", systemWith(ladderOf("x", gains{1: "-2"}, gains{}, gains{1: "0"})), api.Spot{}, api.ErrNone},
		{"other loops", systemWith(ladderOf("x", gains{1: "-2"}, gains{0: "0", 2: "0"}, gains{1: "0"})), api.Spot{}, api.ErrNone},
		{"other guards", systemWith(ladderOf("x", gains{1: "-2"}), ladderOf("y", gains{1: "0"})), api.Spot{}, api.ErrNone},
		{"the second guard", systemWith(ladderOf("x", gains{0: "1"}), ladderOf("y", gains{1: "0"}, gains{0: "1", 2: "1"})), spotAt(1, 1, 2), api.OK},
		{"the first guard first", systemWith(ladderOf("x", gains{}, gains{2: "1"}), ladderOf("y", gains{0: "3"})), spotAt(0, 1, 2), api.OK},
		{"the first rung first", systemWith(ladderOf("x", gains{2: "1"}, gains{0: "3"})), spotAt(0, 0, 2), api.OK},
		{"the first loop first", systemWith(ladderOf("x", gains{0: "1", 1: "-1", 2: "1"})), spotAt(0, 0, 1), api.OK},
		{"the loop, not its place", systemWith(ladderOf("x", gains{2: "1"})), spotAt(0, 0, 2), api.OK},
	} {
		got, e := Unsound(c.s, filters())
		is(t, c.what, got, e, c.want, c.e)
	}
}

// P4.7: the errors, in their order.
func TestUnsoundErrors(t *testing.T) {
	s := systemWith(ladderOf("x", gains{0: "3", 2: "0"}), ladderOf("y", gains{}, gains{1: "0"}))
	wrong := api.Filter{}
	for _, c := range []struct {
		what string
		s    api.System
		f    []api.Filter
		want api.Spot
		e    api.Errno
	}{
		{"enough", s, filters(), spotAt(0, 0, 0), api.OK},
		{"none", s, nil, api.Spot{}, api.ErrArg},
		{"too few", s, filters()[:2], api.Spot{}, api.ErrArg},
		{"too few of wrong ones", s, []api.Filter{wrong}, api.Spot{}, api.ErrArg},
		{"too few for the second guard", systemWith(ladderOf("x", gains{0: "0"}), ladderOf("y", gains{}, gains{1: "0"})), filters()[:1], api.Spot{}, api.ErrArg},
		{"enough for all", systemWith(ladderOf("x", gains{0: "0"}), ladderOf("y", gains{}, gains{1: "0"})), filters()[:2], api.Spot{}, api.ErrNone},
		{"eight", systemWith(ladderOf("x", gains{7: "0"})), slices.Repeat([]api.Filter{half()}, 8), api.Spot{}, api.ErrNone},
		{"seven, of eight", systemWith(ladderOf("x", gains{7: "0"})), slices.Repeat([]api.Filter{half()}, 7), api.Spot{}, api.ErrArg},
		{"eight that none closes", example(), slices.Repeat([]api.Filter{half()}, 8), api.Spot{}, api.ErrNone},
		{"nine", example(), slices.Repeat([]api.Filter{half()}, 9), api.Spot{}, api.ErrArg},
		{"nine wrong ones", example(), make([]api.Filter, 9), api.Spot{}, api.ErrArg},
		{"a wrong one", s, append(filters()[:2], wrong), api.Spot{}, api.ErrFilter},
		{"a wrong one that none closes", s, append(filters(), wrong), api.Spot{}, api.ErrFilter},
		{"a wrong one, first", s, []api.Filter{filterOf([]api.Num{"1"}, []api.Num{"2"}), half(), half()}, api.Spot{}, api.ErrFilter},
		{"a wrong one, without loops", example(), []api.Filter{filterOf([]api.Num{"i"}, []api.Num{"1"})}, api.Spot{}, api.ErrFilter},
	} {
		got, e := Unsound(c.s, c.f)
		is(t, c.what, got, e, c.want, c.e)
	}
}

// P4.7: as the definition says, for random systems.
func TestUnsoundLaw(t *testing.T) {
	r := rand.New(rand.NewSource(9))
	sound := 0
	for range 300 {
		s := randomSystem(r, 3, 2)
		want, wantError := api.Spot{}, api.ErrNone
		if list := modelUnsound(s, filters()); len(list) > 0 {
			want, wantError = list[0], api.OK
		} else {
			sound++
		}
		got, e := Unsound(s, filters())
		is(t, "Unsound", got, e, want, wantError)
	}
	if sound < 10 {
		t.Errorf("only %d of the systems are sound", sound)
	}
}

// soundSystem leaves loops that are not sound out of a random system.
func soundSystem(r *rand.Rand) api.System {
	for s := randomSystem(r, 4, 2); ; {
		x, e := Unsound(s, filters())
		if e != api.OK {
			return s
		}
		rung := &s.Guards[x.Guard].Rungs[x.Rung]
		rung.Loops = slices.DeleteFunc(rung.Loops, func(c api.Closing) bool { return c.Loop == x.Loop })
	}
}

// between returns gains from a to b, with both.
func between(a, b api.Num) []api.Num {
	var list []api.Num
	for i := range 9 {
		share := calc(num.Of(i, 8))
		list = append(list, calc(num.Add(a, calc(num.Mul(share, calc(num.Sub(b, a)))))))
	}
	return list
}

// P4.13: in a sound system, what is closed is stable in each status that is reached, and on the way from rung to rung.
func TestSoundLaw(t *testing.T) {
	r := rand.New(rand.NewSource(10))
	ways := 0
	for range 60 {
		s := soundSystem(r)
		x := must[api.Status](t)(Start(s))
		for _, v := range randomEvents(r, s, 60) {
			for _, c := range must[[]api.Closing](t)(Closed(s, x)) {
				if !calc(loop.Holds(filters()[c.Loop], []api.Num{c.Gain}))[0] {
					t.Fatalf("%v, %v: %v is not stable", s, x, c)
				}
			}
			y := must[api.Status](t)(Move(s, x, v))
			from, to := s.Guards[v.Guard].Rungs[x.At[v.Guard]], s.Guards[v.Guard].Rungs[y.At[v.Guard]]
			x = y
			if to.Name != from.Next && to.Name != from.Back {
				continue
			}
			for _, c := range from.Loops {
				gain, closes := gainIn(to, c.Loop)
				if !closes {
					continue
				}
				ways++
				if slices.Contains(calc(loop.Holds(filters()[c.Loop], between(c.Gain, gain))), false) {
					t.Fatalf("%v: from %v to %v the loop %d is not stable", s, from, to, c.Loop)
				}
			}
		}
	}
	if ways < 100 {
		t.Errorf("only %d loops are closed on the way", ways)
	}
}
