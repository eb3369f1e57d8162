package alert

import (
	"fmt"
	"math/rand"
	"testing"

	"ringdown/api"
	"ringdown/search"
)

func candidateOf(n, of int) api.Candidate {
	return api.Candidate{Pair: api.Pair{A: 1, B: 2, Loud: 3}, Chance: chanceOf(n, of)}
}

// P10.5: drafts have the chance of their candidate, and the first version.
func TestDraft(t *testing.T) {
	a, e := Draft("s1", 5, candidateOf(1, 20), 1, 1, list(0, 3))
	is(t, "example", a, e, exampleAlert(), api.OK)
	for _, from := range validAlerts() {
		want := from
		want.Version, want.Before, want.Withdrawn = 1, 0, false
		for _, limit := range list(want.Chance.N, want.Chance.N+1, 256, 1<<63-1) {
			a, e := Draft(from.Event, from.Time, api.Candidate{Chance: from.Chance}, limit, from.Grid, from.Cells)
			if from.Withdrawn {
				is(t, fmt.Sprint(from), a, e, api.Alert{}, api.ErrAlert)
			} else {
				is(t, fmt.Sprint(from), a, e, want, api.OK)
			}
		}
		for _, limit := range list(want.Chance.N-1, 0, -1, -1<<63) {
			a, e := Draft(from.Event, from.Time, api.Candidate{Chance: from.Chance}, limit, from.Grid, from.Cells)
			is(t, fmt.Sprint(from), a, e, api.Alert{}, api.ErrNone)
		}
	}
}

// P10.5: ErrNone comes first, then ErrAlert.
func TestErrorsOfDraft(t *testing.T) {
	for _, wrong := range wrongAlerts() {
		if wrong.Version != 1 || wrong.Before != 0 || wrong.Withdrawn {
			continue
		}
		c := api.Candidate{Chance: wrong.Chance}
		a, e := Draft(wrong.Event, wrong.Time, c, 1<<63-1, wrong.Grid, wrong.Cells)
		is(t, fmt.Sprint(wrong), a, e, api.Alert{}, api.ErrAlert)
		a, e = Draft(wrong.Event, wrong.Time, c, wrong.Chance.N, wrong.Grid, wrong.Cells)
		is(t, fmt.Sprint(wrong), a, e, api.Alert{}, api.ErrAlert)
		if wrong.Chance.N > -1<<63 {
			a, e = Draft(wrong.Event, wrong.Time, c, wrong.Chance.N-1, wrong.Grid, wrong.Cells)
			is(t, fmt.Sprint(wrong), a, e, api.Alert{}, api.ErrNone)
		}
	}
}

// P10.5: the next version has the digest of the one before.
func TestFollow(t *testing.T) {
	first := exampleAlert()
	second, e := Follow(first, 5, chanceOf(2, 7), 2, list(23))
	is(t, "second", second, e, api.Alert{Event: "s1", Version: 2, Time: 5, Chance: chanceOf(2, 7), Grid: 2, Cells: list(23), Before: modelDigest(first)}, api.OK)
	third, e := Follow(second, 1<<30, chanceOf(256, 256), 8, upTo(384))
	is(t, "third", third, e, api.Alert{Event: "s1", Version: 3, Time: 1 << 30, Chance: chanceOf(256, 256), Grid: 8, Cells: upTo(384), Before: modelDigest(second)}, api.OK)
	last, e := Withdraw(third, 1<<30)
	is(t, "last", last, e, api.Alert{Event: "s1", Version: 4, Time: 1 << 30, Chance: chanceOf(256, 256), Grid: 8, Withdrawn: true, Before: modelDigest(third)}, api.OK)
	a, e := Withdraw(first, 6)
	is(t, "example", a, e, api.Alert{Event: "s1", Version: 2, Time: 6, Chance: chanceOf(1, 20), Grid: 1, Withdrawn: true, Before: modelDigest(first)}, api.OK)
}

// P10.5: the first error of an alert, a time, and what follows.
func TestErrorsOfFollow(t *testing.T) {
	follow := func(a api.Alert, time int, c api.Chance, grid int, cells []int, want api.Errno) {
		t.Helper()
		got, e := Follow(a, time, c, grid, cells)
		is(t, fmt.Sprint(a, time, c, grid, cells), got, e, api.Alert{}, want)
	}
	withdraw := func(a api.Alert, time int, want api.Errno) {
		t.Helper()
		got, e := Withdraw(a, time)
		is(t, fmt.Sprint(a, time), got, e, api.Alert{}, want)
	}
	for _, a := range wrongAlerts() {
		for _, time := range list(a.Time, -1<<63, 1<<30) {
			follow(a, time, chanceOf(1, 1), 1, list(0), api.ErrAlert)
			follow(a, time, api.Chance{}, 0, nil, api.ErrAlert)
			withdraw(a, time, api.ErrAlert)
		}
	}
	for _, a := range []api.Alert{withdrawn(1, 0), withdrawn(9, 8), withdrawn(1000, 0)} {
		for _, time := range list(6, 7, 5, -1, 1<<30+1) {
			follow(a, time, chanceOf(1, 1), 1, list(0), api.ErrWithdrawn)
			follow(a, time, api.Chance{}, 0, nil, api.ErrWithdrawn)
			withdraw(a, time, api.ErrWithdrawn)
		}
	}
	for _, a := range []api.Alert{exampleAlert(), laterAlert()} {
		for _, time := range list(a.Time-1, 0, -1, -1<<63) {
			follow(a, time, chanceOf(1, 1), 1, list(0), api.ErrEarlier)
			follow(a, time, api.Chance{}, 0, nil, api.ErrEarlier)
			withdraw(a, time, api.ErrEarlier)
		}
		for _, time := range list(1<<30+1, 1<<31, 1<<62, 1<<63-1) {
			follow(a, time, chanceOf(1, 1), 1, list(0), api.ErrAlert)
			withdraw(a, time, api.ErrAlert)
		}
		a.Version = 1000
		follow(a, a.Time, chanceOf(1, 1), 1, list(0), api.ErrAlert)
		withdraw(a, a.Time, api.ErrAlert)
		if a.Before == 0 {
			a.Version = 999
			must[api.Alert](t)(Follow(a, a.Time, chanceOf(1, 1), 1, list(0)))
			must[api.Alert](t)(Withdraw(a, a.Time))
		}
	}
	follow(exampleAlert(), 4, chanceOf(1, 1), 1, list(0), api.ErrEarlier)
	for _, wrong := range wrongAlerts() {
		if wrong.Withdrawn || !modelIsAlert(api.Alert{Event: wrong.Event, Version: 1, Time: wrong.Time, Chance: chanceOf(1, 1), Grid: 1, Cells: list(0)}) {
			continue
		}
		if wrong.Time = 5; modelIsAlert(api.Alert{Event: "a", Version: 1, Chance: wrong.Chance, Grid: wrong.Grid, Cells: wrong.Cells}) {
			continue
		}
		follow(exampleAlert(), 5, wrong.Chance, wrong.Grid, wrong.Cells, api.ErrAlert)
		follow(exampleAlert(), 4, wrong.Chance, wrong.Grid, wrong.Cells, api.ErrEarlier)
	}
}

// randomTriggers have few templates, so that some coincide.
func randomTriggers(r *rand.Rand) []api.Trigger {
	var l []api.Trigger
	for time := 0; time < 90; time += 1 + r.Intn(20) {
		l = append(l, api.Trigger{Time: time, Loud: r.Intn(50), Template: r.Intn(2)})
	}
	return l
}

// P10.14: candidates of a search at a limit are drafted; each version that follows is valid, and can be posted when it is signed.
func TestDraftsOfCandidates(t *testing.T) {
	r := rand.New(rand.NewSource(6))
	signers := exampleSigners()
	drafted := 0
	for range 1500 {
		a, b := randomTriggers(r), randomTriggers(r)
		limit, board := r.Intn(6), must[*Board](t)(NewBoard(rollBy(signers, 2)))
		all := must[[]api.Candidate](t)(search.Candidates(a, b, 100, 5, 10, 10))
		for i, c := range all {
			event, time := fmt.Sprint("e", i), r.Intn(50)
			now, e := Draft(event, time, c, limit, 2, list(1, 5))
			if c.Chance.N > limit {
				hasError(t, fmt.Sprint(c, limit), e, api.ErrNone)
				continue
			}
			drafted++
			for k := 0; ; k++ {
				hasError(t, fmt.Sprint(now), e, api.OK)
				hasError(t, fmt.Sprint(now), CheckAlert(now), api.OK)
				hasError(t, fmt.Sprint(now), board.Post(signedBy(signers, now, 0, 2)), api.OK)
				if time += r.Intn(3); k == 3 || now.Withdrawn {
					break
				}
				if r.Intn(4) == 0 {
					now, e = Withdraw(now, time)
				} else {
					now, e = Follow(now, time, chanceOf(1+r.Intn(9), 9), 1+r.Intn(8), list(0, 5))
				}
			}
			if first := board.History(event)[0]; first.Chance != c.Chance || first.Chance.N > limit {
				t.Errorf("%v of %v", first, c)
			}
		}
	}
	if drafted < 300 {
		t.Errorf("%d drafts", drafted)
	}
}
