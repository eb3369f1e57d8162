package alert

import (
	"fmt"
	"math/rand"
	"slices"
	"testing"

	"ringdown/api"
)

func newBoard(t *testing.T, signers []signer, quorum int) *Board {
	t.Helper()
	return must[*Board](t)(NewBoard(rollBy(signers, quorum)))
}

// shows checks what a board says of an event.
func shows(t *testing.T, b *Board, event string, force api.Alert, e api.Errno, history ...api.Alert) {
	t.Helper()
	a, got := b.Force(event)
	is(t, "Force of "+event, a, got, force, e)
	is(t, "History of "+event, b.History(event), api.OK, history, api.OK)
}

// P10.7, P10.8: the example.
func TestBoard(t *testing.T) {
	signers := exampleSigners()
	b := newBoard(t, signers, 2)
	shows(t, b, "s1", api.Alert{}, api.ErrNone)
	is(t, "Notices", b.Notices(), api.OK, nil, api.OK)
	a := exampleAlert()
	first := signedBy(signers, a, 0, 2)
	hasError(t, "first", b.Post(first), api.OK)
	shows(t, b, "s1", a, api.OK, a)
	hasError(t, "again", b.Post(first), api.ErrVersion)
	last := must[api.Alert](t)(Withdraw(a, 6))
	second := signedBy(signers, last, 0, 1, 2)
	hasError(t, "withdrawal", b.Post(second), api.OK)
	shows(t, b, "s1", api.Alert{}, api.ErrWithdrawn, a, last)
	third := version("s1", 3, 7)
	third.Before = modelDigest(last)
	hasError(t, "after it", b.Post(signedBy(signers, third, 0, 1)), api.ErrWithdrawn)
	is(t, "Notices", b.Notices(), api.OK, notices(first, second), api.OK)
	for _, event := range append(wrongNames(), "s", "s2", "s11") {
		shows(t, b, event, api.Alert{}, api.ErrNone)
	}
}

// P10.7: a withdrawal may be the first version.
func TestWithdrawnAtOnce(t *testing.T) {
	signers := exampleSigners()
	b := newBoard(t, signers, 1)
	hasError(t, "withdrawal", b.Post(signedBy(signers, withdrawn(1, 0), 1)), api.OK)
	shows(t, b, "s1", api.Alert{}, api.ErrWithdrawn, withdrawn(1, 0))
	hasError(t, "again", b.Post(signedBy(signers, withdrawn(1, 0), 1)), api.ErrWithdrawn)
	hasError(t, "first", b.Post(signedBy(signers, exampleAlert(), 1)), api.ErrWithdrawn)
	hasError(t, "other event", b.Post(signedBy(signers, version("s2", 1, 0), 1)), api.OK)
}

// P10.7, R3: boards that no function returned.
func TestNoBoard(t *testing.T) {
	signers := exampleSigners()
	made := newBoard(t, signers, 1)
	first := signedBy(signers, exampleAlert(), 0)
	hasError(t, "first", made.Post(first), api.OK)
	copied := *made
	for _, b := range []*Board{nil, {}, new(Board), &copied} {
		for _, n := range []api.Notice{{}, first, signedBy(signers, version("s2", 1, 0), 0)} {
			hasError(t, "Post", b.Post(n), api.ErrNil)
		}
		for _, event := range []string{"", "s1", "s2"} {
			shows(t, b, event, api.Alert{}, api.ErrNil)
		}
		is(t, "Notices", b.Notices(), api.OK, nil, api.OK)
	}
	shows(t, made, "s1", exampleAlert(), api.OK, exampleAlert())
	is(t, "Notices", made.Notices(), api.OK, notices(first), api.OK)
}

// P10.7: the errors in their order; an alert is wrong in all ways that come later.
func TestErrorsOfPost(t *testing.T) {
	signers := manySigners(3)
	b := newBoard(t, signers, 2)
	post := func(what string, a api.Alert, want api.Errno, who ...int) {
		t.Helper()
		before := b.Notices()
		hasError(t, what, b.Post(signedBy(signers, a, who...)), want)
		if want != api.OK {
			is(t, what, b.Notices(), api.OK, before, api.OK)
		}
	}
	one := version("s1", 1, 5)
	digest := modelDigest(one)
	with := func(n, time, before int) api.Alert {
		a := version("s1", n, time)
		a.Before = before
		return a
	}
	post("second first", with(2, 5, 0), api.ErrVersion, 0, 1)
	post("second first", with(2, 5, digest), api.ErrVersion, 0, 1)
	post("first", one, api.OK, 0, 1)
	wrong := with(3, 4, digest+1)
	hasError(t, "alert", b.Post(api.Notice{}), api.ErrAlert)
	unsigned := signedBy(signers, wrong, 0)
	unsigned.Signatures[0].Number++
	hasError(t, "signature", b.Post(unsigned), api.ErrSign)
	post("quorum", wrong, api.ErrQuorum, 0)
	post("version", wrong, api.ErrVersion, 0, 1)
	post("version", with(1, 9, 0), api.ErrVersion, 0, 1)
	post("version", with(3, 5, digest), api.ErrVersion, 0, 1)
	post("version", with(1000, 5, digest), api.ErrVersion, 0, 1)
	for _, before := range list(0, digest-1, digest+1, api.DigestPrime-1) {
		post("chain", with(2, 5, before), api.ErrChain, 0, 1)
		post("chain", with(2, 4, before), api.ErrChain, 0, 1)
	}
	post("earlier", with(2, 4, digest), api.ErrEarlier, 0, 1)
	post("earlier", with(2, 0, digest), api.ErrEarlier, 0, 1)
	post("second", with(2, 5, digest), api.OK, 0, 1)
	post("again", with(2, 5, digest), api.ErrVersion, 0, 1)
	post("chain of the first one", with(3, 5, digest), api.ErrChain, 0, 1)
	last := withdrawn(3, modelDigest(with(2, 5, digest)))
	post("last", last, api.OK, 1, 2)
	post("withdrawn", wrong, api.ErrWithdrawn, 0, 1)
	post("withdrawn", with(4, 9, modelDigest(last)), api.ErrWithdrawn, 0, 1)
	post("quorum", with(4, 9, modelDigest(last)), api.ErrQuorum)
	post("first", version("s", 1, 0), api.OK, 0, 1, 2)
}

// P10.7: at most 256 notices, of one event or of several; ErrFull comes last.
func TestFullBoard(t *testing.T) {
	signers := manySigners(2)
	for _, events := range list(1, 2, 256) {
		b, now := newBoard(t, signers, 1), map[string]api.Alert{}
		var all []api.Notice
		for i := range 256 {
			event, e := fmt.Sprint("e", i%events), api.OK
			a := version(event, 1, 0)
			if i >= events {
				a, e = Follow(now[event], i, chanceOf(1, 2), 1, list(5))
			}
			hasError(t, event, e, api.OK)
			all = append(all, signedBy(signers, a, i%2))
			hasError(t, event, b.Post(all[i]), api.OK)
			now[event] = a
		}
		next := must[api.Alert](t)(Follow(now["e0"], 256, chanceOf(1, 2), 1, list(5)))
		hasError(t, "full", b.Post(signedBy(signers, next, 0)), api.ErrFull)
		hasError(t, "full", b.Post(signedBy(signers, version("x", 1, 0), 0)), api.ErrFull)
		hasError(t, "version", b.Post(signedBy(signers, version("x", 2, 0), 0)), api.ErrVersion)
		hasError(t, "quorum", b.Post(api.Notice{Alert: next}), api.ErrQuorum)
		late := copied(next)
		late.Time = 0
		if events < 256 {
			hasError(t, "earlier", b.Post(signedBy(signers, late, 0)), api.ErrEarlier)
		}
		late.Before++
		hasError(t, "chain", b.Post(signedBy(signers, late, 0)), api.ErrChain)
		is(t, "Notices", b.Notices(), api.OK, all, api.OK)
		shows(t, b, "x", api.Alert{}, api.ErrNone)
	}
}

// randomNext is about the next notice of some event.
func randomNext(r *rand.Rand, signers []signer, model *modelBoard) api.Notice {
	a := version(pick(r, "a", "b", "c", "d"), 1, r.Intn(3))
	if alerts := model.history(a.Event); len(alerts) > 0 && r.Intn(10) > 0 {
		last := pick(r, append(slices.Repeat(alerts[len(alerts)-1:], 5), alerts...)...)
		a.Version, a.Before, a.Time = last.Version+1, modelDigest(last), last.Time+r.Intn(6)-1
		if r.Intn(20) == 0 {
			a.Version += r.Intn(3) - 1
		}
		if r.Intn(20) == 0 || a.Version == 1 {
			a.Before = 0
		}
	}
	a.Time = max(a.Time, 0)
	if r.Intn(15) == 0 {
		a.Withdrawn, a.Cells = true, nil
	}
	n := signedBy(signers, a, upTo(1+r.Intn(len(signers)))...)
	if r.Intn(10) == 0 {
		return randomNotice(r, signers, len(signers))
	}
	return n
}

// P10.7, P10.8: boards as they are defined, for whatever is posted.
func TestRandomBoards(t *testing.T) {
	r := rand.New(rand.NewSource(10))
	count := map[api.Errno]int{}
	for range 300 {
		roll, signers := randomRoll(r)
		b, model := must[*Board](t)(NewBoard(roll)), &modelBoard{r: roll}
		for range r.Intn(60) {
			n := randomNext(r, signers, model)
			want := model.post(n)
			count[want]++
			hasError(t, fmt.Sprint(model.l, n), b.Post(n), want)
		}
		is(t, "Notices", b.Notices(), api.OK, model.l, api.OK)
		for _, event := range []string{"a", "b", "c", "d", "b2", "a_c", ""} {
			force, e := model.force(event)
			shows(t, b, event, force, e, model.history(event)...)
		}
		checkChains(t, b)
		checkSettled(t, roll, b)
	}
	for _, e := range []api.Errno{api.OK, api.ErrAlert, api.ErrSign, api.ErrQuorum, api.ErrWithdrawn, api.ErrVersion, api.ErrChain, api.ErrEarlier} {
		if count[e] < 30 {
			t.Errorf("error %d: %d times", e, count[e])
		}
	}
}

// checkChains checks P10.11.
func checkChains(t *testing.T, b *Board) {
	t.Helper()
	for _, n := range b.Notices() {
		alerts := b.History(n.Alert.Event)
		for i, a := range alerts[1:] {
			last := alerts[i]
			if a.Version != last.Version+1 || a.Before != modelDigest(last) || a.Time < last.Time || last.Withdrawn {
				t.Errorf("%v after %v", a, last)
			}
		}
		if first := alerts[0]; first.Version != 1 || first.Before != 0 {
			t.Errorf("first: %v", first)
		}
	}
}

// checkSettled checks what P10.12 and P10.13 say of boards, as far as their notices are few enough.
func checkSettled(t *testing.T, roll api.Roll, b *Board) {
	t.Helper()
	l := b.Notices()
	if len(l) > api.MaxNotices {
		return
	}
	forks, e := Forks(roll, l)
	is(t, "forks", forks, e, nil, api.OK)
	standings := must[[]api.Standing](t)(Settle(roll, l))
	for _, s := range standings {
		a, e := b.Force(s.Event)
		if e == api.OK {
			is(t, "settled", s, e, force(s.Event, a), api.OK)
		} else {
			is(t, "settled", s, e, stands(s.Event, api.StandWithdrawn), api.ErrWithdrawn)
		}
	}
	if len(standings) != len(modelEvents(l)) {
		t.Errorf("%v of %v", standings, l)
	}
}

// P10.11: whatever is posted after a withdrawal, there is no further version.
func TestAfterWithdrawal(t *testing.T) {
	r := rand.New(rand.NewSource(11))
	signers := manySigners(2)
	b := newBoard(t, signers, 1)
	hasError(t, "first", b.Post(signedBy(signers, exampleAlert(), 0)), api.OK)
	last := must[api.Alert](t)(Withdraw(exampleAlert(), 5))
	hasError(t, "last", b.Post(signedBy(signers, last, 0)), api.OK)
	for range 500 {
		a := randomAlert(r)
		a.Event = "s1"
		if r.Intn(2) == 0 {
			a.Version, a.Before = 3, modelDigest(last)
		}
		hasError(t, fmt.Sprint(a), b.Post(signedBy(signers, a, 0, 1)), api.ErrWithdrawn)
		shows(t, b, "s1", api.Alert{}, api.ErrWithdrawn, exampleAlert(), last)
	}
}
