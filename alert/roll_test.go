package alert

import (
	"fmt"
	"math/rand"
	"slices"
	"testing"

	"ringdown/api"
)

func validRolls() []api.Roll {
	all := keysOf(manySigners(8))
	l := []api.Roll{rollBy(exampleSigners(), 1), rollBy(exampleSigners(), 2), rollBy(exampleSigners(), 3), {Keys: all, Quorum: 8}, {Keys: all, Quorum: 1}, {Keys: all[:1], Quorum: 1}}
	// Keys that only seem to be some, and exponents that are the same.
	return append(l, api.Roll{Keys: []api.Key{keyOf(15, 3), keyOf(1<<30, 3), keyOf(16, 32749), keyOf(17, 4)}, Quorum: 4})
}

// P10.4: which rolls are valid; all functions with a roll return ErrRoll first.
func TestCheckRoll(t *testing.T) {
	for _, r := range validRolls() {
		hasError(t, fmt.Sprint(r), CheckRoll(r), api.OK)
	}
	tooMany := slices.Repeat(notices(signedBy(exampleSigners(), exampleAlert(), 0, 1)), 65)
	for _, r := range wrongRolls() {
		what := fmt.Sprint(r.Quorum, len(r.Keys), r.Keys[:min(len(r.Keys), 10)])
		hasError(t, what, CheckRoll(r), api.ErrRoll)
		for _, n := range []api.Notice{{}, tooMany[0]} {
			hasError(t, what, CheckNotice(r, n), api.ErrRoll)
		}
		for _, l := range [][]api.Notice{nil, tooMany[:1], tooMany} {
			standings, e := Settle(r, l)
			is(t, what, standings, e, nil, api.ErrRoll)
			forks, e := Forks(r, l)
			is(t, what, forks, e, nil, api.ErrRoll)
		}
		b, e := NewBoard(r)
		if b != nil || e != api.ErrRoll {
			t.Errorf("%s: %v, %d", what, b, e)
		}
	}
}

// P10.4: valid notices have at least as many signatures as the quorum, by increasing signers.
func TestCheckNotice(t *testing.T) {
	signers := manySigners(4)
	for quorum := 1; quorum <= 4; quorum++ {
		r := rollBy(signers, quorum)
		for _, a := range validAlerts() {
			for some := range 16 {
				who := slices.DeleteFunc(upTo(4), func(i int) bool { return some>>i&1 == 0 })
				want := api.OK
				if len(who) < quorum {
					want = api.ErrQuorum
				}
				hasError(t, fmt.Sprint(quorum, who, a), CheckNotice(r, signedBy(signers, a, who...)), want)
			}
		}
	}
}

// wrongSignatures are those of an alert by some signers with something wrong; the last signer is not asked for.
func wrongSignatures(signers []signer, a api.Alert) [][]api.Signature {
	good := signedBy(signers, a, upTo(len(signers)-1)...).Signatures
	last := signedBy(signers, a, len(signers)-1).Signatures[0]
	l := [][]api.Signature{append(slices.Clone(good), good[len(good)-1]), append(slices.Clone(good), good[0]), slices.Repeat(good, 2), slices.Repeat(good, 10000), {good[1], good[0]}, {good[0], good[0]}, {last, good[0]}}
	for i := range good {
		change := func(s api.Signature) {
			wrong := slices.Clone(good)
			wrong[i] = s
			l = append(l, wrong)
		}
		modulus := signers[good[i].Signer].key.Modulus
		for _, n := range list(-1, modulus, good[i].Number+1, good[i].Number-1, good[i].Number+modulus, good[i].Number-modulus, 1<<62, -1<<63) {
			change(api.Signature{Signer: good[i].Signer, Number: n})
		}
		for _, who := range list(-1, len(signers), len(signers)+1, 1<<32, 1<<62, -1<<63, 1<<63-1) {
			change(api.Signature{Signer: who, Number: good[i].Number})
		}
		change(api.Signature{Signer: good[i].Signer, Number: signedBy(signers, withDigest(1, 15), good[i].Signer).Signatures[0].Number})
		change(last)
	}
	return l
}

// P10.4: ErrAlert comes first, then ErrSign, also with enough other signatures, then ErrQuorum.
func TestErrorsOfNotices(t *testing.T) {
	signers := manySigners(4)
	for quorum := 1; quorum <= 4; quorum++ {
		r := rollBy(signers, quorum)
		for _, a := range []api.Alert{exampleAlert(), laterAlert(), withdrawn(3, 1)} {
			for i, l := range wrongSignatures(signers, a) {
				n := api.Notice{Alert: a, Signatures: l}
				want := modelCheckNotice(r, n)
				if i < 7 && want != api.ErrSign {
					t.Errorf("%v: %d", n, want)
				}
				hasError(t, fmt.Sprint(quorum, a, l[:min(len(l), 8)]), CheckNotice(r, n), want)
				n.Alert.Time = -1
				hasError(t, fmt.Sprint(quorum, n.Alert), CheckNotice(r, n), api.ErrAlert)
			}
			hasError(t, fmt.Sprint(quorum), CheckNotice(r, api.Notice{Alert: a}), api.ErrQuorum)
			hasError(t, fmt.Sprint(quorum), CheckNotice(r, api.Notice{Alert: a, Signatures: []api.Signature{}}), api.ErrQuorum)
		}
		for _, a := range wrongAlerts() {
			hasError(t, fmt.Sprint(a), CheckNotice(r, api.Notice{Alert: a}), api.ErrAlert)
			hasError(t, fmt.Sprint(a), CheckNotice(r, api.Notice{Alert: a, Signatures: []api.Signature{{Signer: 9}}}), api.ErrAlert)
		}
	}
}

// P10.4: a signature counts only for the key that made it, and for the alert that it is of.
func TestOtherSignatures(t *testing.T) {
	signers := manySigners(3)
	r := rollBy(signers, 1)
	n := signedBy(signers, exampleAlert(), 0)
	n.Signatures[0].Signer = 1
	hasError(t, "other key", CheckNotice(r, n), api.ErrSign)
	n = signedBy(signers, exampleAlert(), 0, 1)
	n.Alert.Time++
	hasError(t, "other time", CheckNotice(r, n), api.ErrSign)
	n = signedBy(signers, exampleAlert(), 0, 1)
	n.Signatures[1].Number = 0
	hasError(t, "second one", CheckNotice(r, n), api.ErrSign)
}

// P10.4: notices with keys so short that numbers are signatures by chance.
func TestRandomNotices(t *testing.T) {
	r := rand.New(rand.NewSource(5))
	count := map[api.Errno]int{}
	for range 20000 {
		roll, signers := randomRoll(r)
		n := randomNotice(r, signers, len(signers))
		want := modelCheckNotice(roll, n)
		count[want]++
		hasError(t, fmt.Sprint(roll, n), CheckNotice(roll, n), want)
	}
	for _, e := range []api.Errno{api.OK, api.ErrAlert, api.ErrSign, api.ErrQuorum} {
		if count[e] < 100 {
			t.Errorf("error %d: %d times", e, count[e])
		}
	}
}

// randomRoll is a valid one, with its signers.
func randomRoll(r *rand.Rand) (api.Roll, []signer) {
	all := append(exampleSigners(), signerOf(17, 19, 5), signerOf(7, 13, 5), signerOf(101, 103, 7))
	if r.Intn(2) == 0 {
		all = manySigners(6)
	}
	r.Shuffle(len(all), func(i, k int) { all[i], all[k] = all[k], all[i] })
	signers := all[:1+r.Intn(len(all))]
	return rollBy(signers, 1+r.Intn(len(signers))), signers
}

// randomNotice is a notice of one of few alerts, which may be wrong, with signatures of at most so many signers, which may be wrong too.
func randomNotice(r *rand.Rand, signers []signer, most int) api.Notice {
	a := exampleAlert()
	a.Event, a.Version, a.Time = pick(r, "a", "b", "b2", "a_c"), pick(r, 1, 1, 2, 2, 3, 1000), r.Intn(2)
	if a.Version > 1 {
		a.Before = r.Intn(2)
	}
	if r.Intn(12) == 0 {
		a.Withdrawn, a.Cells = true, nil
	}
	n := signedBy(signers, a, randomSome(r, most)...)
	switch r.Intn(20) {
	case 0:
		n.Alert.Grid = 9
	case 1:
		n.Alert.Time += 2
	case 2:
		n.Signatures = append(n.Signatures, api.Signature{Signer: r.Intn(most), Number: r.Intn(9)})
	case 3:
		if len(n.Signatures) > 0 {
			n.Signatures[r.Intn(len(n.Signatures))].Number = r.Intn(33)
		}
	}
	return n
}
