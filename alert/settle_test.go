package alert

import (
	"fmt"
	"math/rand"
	"slices"
	"testing"

	"ringdown/api"
)

// version is a version of an alert, of which those with other times are different.
func version(event string, n, time int) api.Alert {
	a := exampleAlert()
	a.Event, a.Version, a.Time = event, n, time
	return a
}

func force(event string, a api.Alert) api.Standing {
	return api.Standing{Event: event, State: api.StandForce, Version: a.Version, Digest: modelDigest(a)}
}

func stands(event string, state int) api.Standing { return api.Standing{Event: event, State: state} }

func settles(t *testing.T, what string, r api.Roll, l []api.Notice, want ...api.Standing) {
	t.Helper()
	got, e := Settle(r, l)
	is(t, what, got, e, want, api.OK)
}

func hasForks(t *testing.T, what string, r api.Roll, l []api.Notice, want ...api.Fork) {
	t.Helper()
	got, e := Forks(r, l)
	is(t, what, got, e, want, api.OK)
}

func forkOf(event string, version int, signers ...int) api.Fork {
	return api.Fork{Event: event, Version: version, Signers: signers}
}

// P10.6: the example, and all ways in which an event may stand.
func TestSettle(t *testing.T) {
	signers := manySigners(3)
	r := rollBy(signers, 2)
	sign := func(a api.Alert, who ...int) api.Notice { return signedBy(signers, a, who...) }
	one, two, other, nine := version("s1", 1, 5), version("s1", 2, 5), version("s1", 2, 6), version("s1", 9, 0)
	settles(t, "none", r, nil)
	settles(t, "example", r, notices(sign(withdrawn(2, 0), 0, 1), sign(version("s1", 3, 9), 0, 1)), stands("s1", 2))
	settles(t, "one", r, notices(sign(one, 0, 1)), force("s1", one))
	settles(t, "twice", r, notices(sign(one, 0, 1), sign(one, 1, 2), sign(one, 0, 1)), force("s1", one))
	settles(t, "versions", r, notices(sign(two, 0, 1), sign(nine, 0, 2), sign(one, 1, 2)), force("s1", nine))
	settles(t, "disputed", r, notices(sign(two, 0, 1), sign(other, 1, 2)), stands("s1", 3))
	settles(t, "disputed before", r, notices(sign(two, 0, 1), sign(nine, 0, 1, 2), sign(other, 1, 2)), stands("s1", 3))
	settles(t, "withdrawn", r, notices(sign(two, 0, 1), sign(withdrawn(1, 0), 0, 1, 2), sign(other, 1, 2)), stands("s1", 2))
	settles(t, "withdrawn in two ways", r, notices(sign(withdrawn(2, 4), 0, 1), sign(withdrawn(2, 5), 0, 1)), stands("s1", 2))
	settles(t, "withdrawn or not", r, notices(sign(two, 0, 1), sign(withdrawn(2, 5), 0, 1)), stands("s1", 2))
	settles(t, "few signatures", r, notices(sign(two, 0, 1), sign(withdrawn(2, 5), 0), sign(other, 2), sign(nine)), force("s1", two))
	// Events are in the order of their bytes, and those with other names do not count.
	settles(t, "events", r, notices(sign(version("b", 2, 0), 0, 1), sign(version("a_c", 2, 1), 0, 1), sign(version("b2", 1, 1), 0, 1), sign(version("a", 3, 3), 0, 1), sign(version("z", 3, 3), 0), sign(version("b", 2, 1), 0, 1), sign(version("a1", 3, 3), 0, 1)),
		force("a", version("a", 3, 3)), force("a1", version("a1", 3, 3)), force("a_c", version("a_c", 2, 1)), stands("b", 3), force("b2", version("b2", 1, 1)))
}

// P10.6: alerts are different if any of their fields are, whatever their digests are.
func TestDifferentAlerts(t *testing.T) {
	signers := manySigners(2)
	r := rollBy(signers, 1)
	a := laterAlert()
	changes := []func(*api.Alert){
		func(a *api.Alert) { a.Time++ }, func(a *api.Alert) { a.Chance.N++ }, func(a *api.Alert) { a.Chance.Of++ }, func(a *api.Alert) { a.Grid++ }, func(a *api.Alert) { a.Before++ },
		func(a *api.Alert) { a.Cells = list(4, 5) }, func(a *api.Alert) { a.Cells = list(4, 5, 22) },
	}
	for i, change := range changes {
		b := copied(a)
		change(&b)
		l := notices(signedBy(signers, a, 0, 1), signedBy(signers, b, 1))
		settles(t, fmt.Sprint(i), r, l, stands("s1", 3))
		hasForks(t, fmt.Sprint(i), r, l, forkOf("s1", 2, 1))
		b.Version = 3
		settles(t, fmt.Sprint(i), r, notices(signedBy(signers, a, 0, 1), signedBy(signers, b, 1)), force("s1", b))
	}
	a, b := sameDigest(t)
	l := notices(signedBy(signers, a, 0), signedBy(signers, b, 1))
	if l[0].Signatures[0] != signedBy(signers, b, 0).Signatures[0] {
		t.Error("the digests are not the same")
	}
	settles(t, "digest", r, l, stands("s1", 3))
	hasForks(t, "digest", r, l, forkOf("s1", 2))
	hasForks(t, "digest", r, append(l, signedBy(signers, b, 0)), forkOf("s1", 2, 0))
}

// sameDigest returns two different alerts with the same digest.
func sameDigest(t *testing.T) (a, b api.Alert) {
	r := rand.New(rand.NewSource(12))
	seen := map[int]api.Alert{}
	for range 1 << 18 {
		a = version("s1", 2, r.Intn(1<<30))
		a.Before = r.Intn(1 << 30)
		digest := must[int](t)(Digest(a))
		if b, isSeen := seen[digest]; isSeen {
			return a, b
		}
		seen[digest] = a
	}
	t.Fatal("no two alerts have the same digest")
	return
}

// P10.6: who signed two ways, in whatever notices.
func TestForks(t *testing.T) {
	signers := manySigners(4)
	r := rollBy(signers, 1)
	sign := func(a api.Alert, who ...int) api.Notice { return signedBy(signers, a, who...) }
	a, b, c := version("s1", 2, 5), version("s1", 2, 6), version("s1", 2, 7)
	hasForks(t, "none", r, nil)
	hasForks(t, "one", r, notices(sign(a, 0, 1)))
	hasForks(t, "the same", r, notices(sign(a, 0, 1), sign(a, 1, 2), sign(a, 0, 1)))
	hasForks(t, "nobody", r, notices(sign(a, 0, 1), sign(b, 2, 3)), forkOf("s1", 2))
	hasForks(t, "one of them", r, notices(sign(a, 0, 2), sign(b, 2, 3)), forkOf("s1", 2, 2))
	hasForks(t, "all", r, notices(sign(b, 0, 1, 2, 3), sign(a, 0, 1, 2, 3)), forkOf("s1", 2, 0, 1, 2, 3))
	hasForks(t, "in several notices", r, notices(sign(a, 3), sign(a, 1), sign(b, 2), sign(b, 3), sign(a, 1), sign(b, 0)), forkOf("s1", 2, 3))
	hasForks(t, "three", r, notices(sign(a, 0, 1), sign(b, 1, 2), sign(c, 0, 2)), forkOf("s1", 2, 0, 1, 2))
	hasForks(t, "other versions", r, notices(sign(a, 0), sign(version("s1", 3, 9), 0), sign(version("s2", 2, 9), 0)))
	hasForks(t, "withdrawn", r, notices(sign(a, 0, 1), sign(withdrawn(2, 0), 1), sign(withdrawn(2, 1), 2, 1), sign(version("s1", 9, 0), 0)), forkOf("s1", 2, 1))
	hasForks(t, "two", rollBy(signers, 2), notices(sign(a, 0, 1), sign(b, 1), sign(c, 0)))
	hasForks(t, "order", r, notices(sign(version("b", 10, 1), 0), sign(version("b", 9, 1), 0), sign(version("a_", 1, 1), 1, 3), sign(version("b", 10, 2), 1), sign(version("a_", 1, 3), 2, 3), sign(version("b", 9, 2), 0), sign(version("a", 5, 4), 2), sign(version("a", 5, 3), 2)),
		forkOf("a", 5, 2), forkOf("a_", 1, 3), forkOf("b", 9, 0), forkOf("b", 10))
}

// P10.6: a signature of one alert is one of another one if their digests leave the same rest; what counts is what is signed.
func TestForksOfShortKeys(t *testing.T) {
	signers := exampleSigners()
	a, b := withDigest(4, 15), withDigest(4, 15)
	for b.Time++; modelDigest(b)%15 != 4; b.Time++ {
	}
	l := notices(signedBy(signers, a, 2), signedBy(signers, b, 2))
	if l[0].Signatures[0] != l[1].Signatures[0] {
		t.Error("the signatures are not the same")
	}
	hasForks(t, "the same signature", rollBy(signers, 1), l, forkOf("s1", 1, 2))
	settles(t, "the same signature", rollBy(signers, 1), l, stands("s1", 3))
}

// P10.6: at most 64 notices, valid or not.
func TestErrorsOfSettle(t *testing.T) {
	signers := exampleSigners()
	r := rollBy(signers, 1)
	good := signedBy(signers, exampleAlert(), 0)
	for _, n := range []api.Notice{{}, good} {
		for _, many := range list(65, 66, 1000) {
			standings, e := Settle(r, slices.Repeat(notices(n), many))
			is(t, fmt.Sprint(many), standings, e, nil, api.ErrLimit)
			forks, e := Forks(r, slices.Repeat(notices(n), many))
			is(t, fmt.Sprint(many), forks, e, nil, api.ErrLimit)
		}
	}
	settles(t, "64", r, slices.Repeat(notices(good), 64), force("s1", exampleAlert()))
	hasForks(t, "64", r, slices.Repeat(notices(good), 64))
	settles(t, "64", r, make([]api.Notice, 64))
	hasForks(t, "64", r, make([]api.Notice, 64))
	other := exampleAlert()
	other.Time++
	all := append(slices.Repeat(notices(good), 63), signedBy(signers, other, 1))
	settles(t, "the last one", r, all, stands("s1", 3))
	hasForks(t, "the last one", r, all, forkOf("s1", 1))
	var many []api.Notice
	var want []api.Standing
	for i := range 64 {
		many = append(many, signedBy(signers, version(fmt.Sprintf("e%02d", 63-i), 1+i, i), i%3))
		want = append(want, force(fmt.Sprintf("e%02d", i), many[0].Alert))
		want[i].Version, want[i].Digest = 64-i, modelDigest(version(fmt.Sprintf("e%02d", i), 64-i, 63-i))
	}
	settles(t, "64 events", r, many, want...)
}

// P10.6: notices that are not valid do not count, whatever is wrong.
func TestInvalidNotices(t *testing.T) {
	signers := manySigners(4)
	good := signedBy(signers, exampleAlert(), 0, 1, 2)
	for quorum := 1; quorum <= 3; quorum++ {
		r := rollBy(signers, quorum)
		for _, a := range []api.Alert{version("s1", 1, 9), withdrawn(2, 0), version("s1", 7, 9), version("a", 1, 1)} {
			for _, l := range wrongSignatures(signers, a) {
				n := api.Notice{Alert: a, Signatures: l}
				if modelCheckNotice(r, n) == api.OK {
					continue
				}
				settles(t, fmt.Sprint(n), r, notices(n, good, n), force("s1", exampleAlert()))
				hasForks(t, fmt.Sprint(n), r, notices(n, good, n))
				settles(t, fmt.Sprint(n), r, notices(n))
			}
		}
		for _, a := range wrongAlerts() {
			n := api.Notice{Alert: a, Signatures: good.Signatures}
			settles(t, fmt.Sprint(n), r, notices(good, n), force("s1", exampleAlert()))
			hasForks(t, fmt.Sprint(n), r, notices(n, good))
		}
	}
}

// randomNotices are at most so many ones.
func randomNotices(r *rand.Rand, signers []signer, most int) []api.Notice {
	var l []api.Notice
	for range r.Intn(most + 1) {
		l = append(l, randomNotice(r, signers, len(signers)))
	}
	return l
}

// P10.6: how events stand, and which forks there are, as they are defined.
func TestRandomNoticesSettle(t *testing.T) {
	r := rand.New(rand.NewSource(7))
	states, named := map[int]int{}, 0
	for range 1500 {
		roll, signers := randomRoll(r)
		l := randomNotices(r, signers, pick(r, 3, 10, 64))
		standings, e := Settle(roll, l)
		is(t, "standings", standings, e, modelSettle(roll, l), api.OK)
		forks, e := Forks(roll, l)
		is(t, "forks", forks, e, modelForks(roll, l), api.OK)
		for _, s := range standings {
			states[s.State]++
		}
		for _, f := range forks {
			named += len(f.Signers)
		}
	}
	if states[1] < 300 || states[2] < 300 || states[3] < 300 || named < 300 {
		t.Errorf("%v, %d", states, named)
	}
}

// P10.12: the order of notices does not matter, nor do those that are not valid, or there twice; a withdrawal stays.
func TestSettleAgain(t *testing.T) {
	r := rand.New(rand.NewSource(8))
	for range 500 {
		roll, signers := randomRoll(r)
		l := randomNotices(r, signers, 30)
		standings, forks := must[[]api.Standing](t)(Settle(roll, l)), must[[]api.Fork](t)(Forks(roll, l))
		for range 3 {
			more := slices.Clone(l)
			for _, n := range append(slices.Clone(l), randomNotices(r, signers, 20)...) {
				isKept := modelCheckNotice(roll, n) != api.OK || slices.ContainsFunc(l, func(m api.Notice) bool { return fmt.Sprint(m) == fmt.Sprint(n) })
				if isKept && len(more) < 64 && r.Intn(2) == 0 {
					more = append(more, n)
				}
			}
			r.Shuffle(len(more), func(i, k int) { more[i], more[k] = more[k], more[i] })
			settles(t, "again", roll, more, standings...)
			hasForks(t, "again", roll, more, forks...)
		}
		after := must[[]api.Standing](t)(Settle(roll, slices.Concat(randomNotices(r, signers, 17), l, randomNotices(r, signers, 17))))
		for _, s := range standings {
			if s.State == api.StandWithdrawn && !slices.Contains(after, s) {
				t.Errorf("%v: %v", s, after)
			}
		}
	}
}

// P10.13: with a quorum of more than a half, enough signers are named; who signs each version in one way never is.
func TestNamed(t *testing.T) {
	r := rand.New(rand.NewSource(9))
	all := 0
	for range 1500 {
		signers := manySigners(1 + r.Intn(8))
		n := len(signers)
		roll := rollBy(signers, n/2+1+r.Intn((n+1)/2))
		// Honest ones sign only the first alert that they see of a version.
		isHonest, seen := map[int]bool{}, map[string]bool{}
		for _, i := range randomSome(r, n) {
			isHonest[i] = true
		}
		var l []api.Notice
		for range 64 {
			a := version(pick(r, "a", "b"), 1+r.Intn(2), r.Intn(3))
			var who []int
			for i := range n {
				first := fmt.Sprint(i, a.Event, a.Version)
				isSigned := r.Intn(8) > 0
				if isHonest[i] && isSigned {
					isSigned = !seen[first] || seen[fmt.Sprint(first, a.Time)]
					seen[first], seen[fmt.Sprint(first, a.Time)] = true, isSigned
				}
				if isSigned {
					who = append(who, i)
				}
			}
			l = append(l, signedBy(signers, a, who...))
		}
		forks := must[[]api.Fork](t)(Forks(roll, l))
		all += len(forks)
		for _, f := range forks {
			if len(f.Signers) < 2*roll.Quorum-n {
				t.Errorf("%v with the quorum %d of %d", f, roll.Quorum, n)
			}
			if slices.ContainsFunc(f.Signers, func(i int) bool { return isHonest[i] }) {
				t.Errorf("%v: %v are honest", f, isHonest)
			}
		}
	}
	if all < 300 {
		t.Errorf("%d forks", all)
	}
}
