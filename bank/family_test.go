package bank

import (
	"fmt"
	"math/rand"
	"slices"
	"testing"

	"ringdown/api"
)

func wrongFamilies() []api.Family {
	l := []api.Family{{}, family(4, 2, 1, 0, 0), family(4, 0, 0, 2, 1), family(4, 63, 0, 0, 0), family(4, 0, 20, 0, 19), family(4, 0, 19, 0, 20), family(4, 0, 63, 0, 6), family(4, 0, 12, 0, 30), family(64, 0, 6, 0, 63), family(4, 0, 63, 0, 63), family(64, 44, 63, 43, 63), family(4, 0, 0, 0, 64), family(4, 0, 64, 0, 0), family(4, -1, 0, 0, 0), family(4, 0, 0, -1, 0), family(4, -1, -1, 0, 0), family(4, 64, 64, 0, 0), family(4, 0, 0, 64, 64)}
	for _, length := range wrongLengths() {
		l = append(l, family(length, 31, 33, 0, 0))
	}
	for _, n := range list(1<<32, 1<<62, 1<<63-1, -1<<63) {
		l = append(l, family(4, n, 33, 0, 0), family(4, 31, n, 0, 0), family(4, 31, 33, n, 0), family(4, 31, 33, 0, n), family(4, n, n, n, n), family(4, 0, n, 0, n), family(4, -n, n, -n, n))
	}
	return l
}

// P7.2: the example, and which families there are.
func TestPoints(t *testing.T) {
	for _, c := range []struct {
		f    api.Family
		want []api.Chirp
	}{
		{example(), chirps(31, 0, 33, 0)}, {family(4, 32, 32, 0, 0), nil}, {family(64, 0, 0, 0, 0), nil}, {family(4, 63, 63, 63, 63), chirps(63, 63)}, {family(4, 1, 2, 3, 5), chirps(1, 3, 1, 4, 1, 5, 2, 3, 2, 4, 2, 5)}, {family(64, 15, 17, 15, 16), chirps(15, 15, 15, 16, 16, 15, 17, 15, 17, 16)},
	} {
		l, e := Points(c.f)
		isList(t, fmt.Sprint(c.f), l, e, c.want, api.OK)
	}
	for f, many := range map[api.Family]int{family(4, 0, 19, 0, 19): 398, family(4, 44, 63, 44, 63): 399, family(64, 0, 63, 0, 5): 382, family(64, 0, 5, 0, 63): 382, family(5, 1, 63, 1, 6): 378, family(4, 20, 27, 10, 59): 400, family(4, 10, 59, 20, 27): 400} {
		l, e := Points(f)
		is(t, fmt.Sprint(f), len(l), e, many, api.OK)
		isList(t, fmt.Sprint(f), l, e, modelPoints(f), api.OK)
	}
	for _, f := range wrongFamilies() {
		l, e := Points(f)
		isList(t, fmt.Sprint(f), l, e, nil, api.ErrFamily)
	}
}

// fullBank has 64 chirps.
func fullBank() []api.Chirp { return modelPoints(family(4, 20, 27, 20, 27)) }

func validBanks() [][]api.Chirp {
	// Chirps with the same wave are not equal.
	return [][]api.Chirp{nil, {}, chirps(16, 0), chirps(16, 0, 48, 32), chirps(63, 63, 0, 1, 1, 0), chirps(1, 2, 2, 1), fullBank()}
}

func wrongBanks() [][]api.Chirp {
	l := [][]api.Chirp{append(fullBank(), chirp(1, 1)), make([]api.Chirp, 1000), chirps(16, 0, 16, 0), chirps(16, 0, 1, 1, 16, 0), chirps(1, 1, 16, 0, 16, 0), append(fullBank()[:63], fullBank()[0]), append(fullBank(), fullBank()...)}
	for _, c := range append(silent(), wrongChirps()...) {
		l = append(l, []api.Chirp{c}, append(chirps(16, 0, 1, 1), c), append([]api.Chirp{c}, chirps(16, 0, 1, 1)...))
	}
	return l
}

// P7.2: which lists are banks for which lengths.
func TestCheckBank(t *testing.T) {
	for _, length := range list(4, 5, 63, 64) {
		for _, l := range validBanks() {
			hasError(t, fmt.Sprint(length, l), CheckBank(length, l), api.OK)
		}
		for _, l := range wrongBanks() {
			hasError(t, fmt.Sprint(length, l), CheckBank(length, l), api.ErrBank)
		}
	}
	for _, length := range wrongLengths() {
		for _, l := range append(wrongBanks(), validBanks()...) {
			hasError(t, fmt.Sprint(length, l), CheckBank(length, l), api.ErrChirp)
		}
	}
}

func wrongLeasts() []api.Num {
	return nums("", "x", "-1", "-1/2", "-0", "00", "01", "0/1", "1/1", "2/4", "+1", "1.0", "0.5", "1/0", "1/-2", "1/2 ", "/", "1/", "/2", "1/2/3",
		"2", "3/2", "1000000", "999999/999998", "1/1000000", "999999/1000000", "1000000/1000001", "1/"+digits(7), "777777/"+digits(7)+"1", "1/"+digits(2000), digits(2001), digits(100000),
		"i", "-i", "1/2i", "1+i", "1/2+1/2i", "1-1/2i", "0+i", "1+0i")
}

// P7.2: ErrFamily comes first, then ErrBank, then ErrLeast, then what a function says itself.
func TestErrorsOfFamilies(t *testing.T) {
	good := chirps(31, 0, 33, 0)
	all := func(f api.Family, l []api.Chirp, least api.Num, want api.Errno) {
		t.Helper()
		what := fmt.Sprint(f, l, len(least), least[:min(9, len(least))])
		missed, e := Misses(f, l, least)
		isList(t, what, missed, e, nil, want)
		proof, e := Prove(f, l, least)
		isList(t, what, proof, e, nil, want)
		for _, proof := range [][]api.Fit{nil, fits(0, 0, 1, 0), fits(-1, 1<<62)} {
			ok, e := Proves(f, l, least, proof)
			is(t, what, ok, e, false, want)
		}
	}
	for _, f := range wrongFamilies() {
		for _, l := range append(wrongBanks(), nil, good) {
			all(f, l, "x", api.ErrFamily)
			all(f, l, "1/2", api.ErrFamily)
			m, e := Worst(f, l)
			is(t, fmt.Sprint(f), m, e, "", api.ErrFamily)
		}
		for _, least := range append(wrongLeasts(), "0", "1") {
			b, e := Build(f, least)
			isList(t, fmt.Sprint(f), b, e, nil, api.ErrFamily)
		}
	}
	none := family(4, 32, 32, 0, 0)
	for _, f := range []api.Family{example(), none, family(64, 0, 19, 0, 19)} {
		for _, l := range wrongBanks() {
			all(f, l, "x", api.ErrBank)
			all(f, l, "1/2", api.ErrBank)
			m, e := Worst(f, l)
			is(t, fmt.Sprint(f, l), m, e, "", api.ErrBank)
		}
		for _, least := range wrongLeasts() {
			all(f, nil, least, api.ErrLeast)
			all(f, good, least, api.ErrLeast)
			b, e := Build(f, least)
			isList(t, fmt.Sprint(f), b, e, nil, api.ErrLeast)
		}
	}
	for _, least := range nums("0", "1", "1/2", "1/999999", "999998/999999", "500000/999999") {
		ok, e := Proves(example(), good, least, fits(0, 0, 1, 0))
		is(t, string(least), ok, e, true, api.OK)
	}
}

// P7.3: which points are missed; what is just reached is not, and what only overlaps with 0 or less is, whatever is asked for.
func TestMisses(t *testing.T) {
	for _, c := range []struct {
		f      api.Family
		l      []api.Chirp
		leasts []api.Num
		want   []int
	}{
		{example(), nil, nums("0", "1/2", "1"), list(0, 1)}, {example(), chirps(31, 0, 33, 0), nums("0", "1/2", "1"), nil}, {example(), chirps(33, 0, 31, 0), nums("0", "1/2", "1"), nil}, {example(), chirps(33, 0), nums("1"), list(0)}, {example(), chirps(31, 0), nums("1"), list(1)}, {family(4, 32, 32, 0, 0), nil, nums("0", "1/2", "1"), nil},
		{family(4, 8, 8, 0, 0), chirps(56, 0), nums("0", "1/999999", "1"), list(0)}, {family(4, 16, 16, 0, 0), chirps(48, 32), nums("0", "1/2", "1"), nil},
		{family(4, 48, 48, 0, 0), chirps(16, 0), nums("0", "249999/999997", "1/4"), nil}, {family(4, 48, 48, 0, 0), chirps(16, 0), nums("249999/999995", "1/2", "1"), list(0)}, {family(4, 48, 48, 0, 0), chirps(16, 0, 48, 0), nums("1/4", "1"), nil},
		{family(4, 15, 17, 16, 16), chirps(15, 16), nums("1"), list(1)}, {family(64, 16, 48, 0, 0), chirps(16, 0), nums("961/1024"), list(1, 2, 3, 4, 5, 6, 7, 8, 9, 10, 11, 12, 13, 14, 15, 16, 17, 18, 19, 20, 21, 22, 23, 24, 25, 26, 27, 28, 29, 30)},
	} {
		for _, least := range c.leasts {
			missed, e := Misses(c.f, c.l, least)
			isList(t, fmt.Sprint(c.f, c.l, least), missed, e, c.want, api.OK)
		}
	}
}

// P7.3: the least match of a point is meant, and of each point the greatest one.
func TestWorst(t *testing.T) {
	for _, c := range []struct {
		f    api.Family
		l    []api.Chirp
		want api.Num
		e    api.Errno
	}{
		{example(), nil, "0", api.OK}, {example(), chirps(31, 0, 33, 0), "1", api.OK}, {family(4, 48, 48, 0, 0), chirps(16, 0), "1/4", api.OK}, {family(4, 48, 48, 0, 0), chirps(16, 0, 48, 0), "1", api.OK}, {family(4, 48, 48, 0, 0), chirps(48, 0, 16, 0), "1", api.OK}, {family(4, 8, 8, 0, 0), chirps(56, 0), "0", api.OK}, {family(4, 16, 16, 0, 0), chirps(48, 32), "1", api.OK}, {family(64, 48, 48, 0, 0), chirps(16, 0), "961/1024", api.OK},
		{family(4, 32, 32, 0, 0), nil, "", api.ErrNone}, {family(4, 32, 32, 0, 0), chirps(16, 0), "", api.ErrNone}, {family(64, 0, 0, 32, 32), chirps(16, 0), "", api.ErrNone},
	} {
		m, e := Worst(c.f, c.l)
		is(t, fmt.Sprint(c.f, c.l), m, e, c.want, c.e)
	}
}

// P7.4: the first chirp that reaches a point, and its least shift; and no proof where one is missed.
func TestProve(t *testing.T) {
	for _, c := range []struct {
		f     api.Family
		l     []api.Chirp
		least api.Num
		want  []api.Fit
		e     api.Errno
	}{
		{example(), chirps(31, 0, 33, 0), "1", fits(0, 0, 1, 0), api.OK}, {example(), chirps(33, 0, 31, 0), "1", fits(1, 0, 0, 0), api.OK}, {family(4, 32, 32, 0, 0), nil, "1", nil, api.OK}, {family(4, 32, 32, 0, 0), chirps(16, 0), "0", nil, api.OK},
		// 0 127 0 -127 and the opposite of it overlap with more than 0 two samples earlier or later; the earlier shift is less.
		{family(4, 48, 48, 0, 0), chirps(16, 0), "1/4", fits(0, -2), api.OK}, {family(4, 48, 48, 0, 0), chirps(16, 0), "0", fits(0, -2), api.OK}, {family(4, 48, 48, 0, 0), chirps(16, 0, 48, 0), "1/4", fits(0, -2), api.OK}, {family(4, 48, 48, 0, 0), chirps(16, 0, 48, 0), "1/3", fits(1, 0), api.OK}, {family(4, 48, 48, 0, 0), chirps(48, 0, 16, 0), "0", fits(0, 0), api.OK},
		// The point is a: 0 90 127 90 and, later, 0 127 0 -127.
		{family(4, 8, 8, 0, 0), chirps(16, 0), "0", fits(0, -2), api.OK}, {family(4, 16, 16, 0, 0), chirps(8, 0), "0", fits(0, 1), api.OK},
		{example(), nil, "0", nil, api.ErrNone}, {example(), chirps(31, 0), "1", nil, api.ErrNone}, {example(), chirps(33, 0), "1", nil, api.ErrNone}, {family(4, 8, 8, 0, 0), chirps(56, 0), "0", nil, api.ErrNone}, {family(4, 48, 48, 0, 0), chirps(16, 0), "1/3", nil, api.ErrNone},
	} {
		proof, e := Prove(c.f, c.l, c.least)
		isList(t, fmt.Sprint(c.f, c.l, c.least), proof, e, c.want, c.e)
	}
}

// P7.4: any fits prove that reach; those that are too few, too many, in another order, or of no chirp or shift, do not.
func TestProves(t *testing.T) {
	one, both := family(4, 48, 48, 0, 0), chirps(16, 0, 48, 0)
	for _, c := range []struct {
		f     api.Family
		l     []api.Chirp
		least api.Num
		proof []api.Fit
		want  bool
	}{
		{example(), chirps(31, 0, 33, 0), "1", fits(0, 0, 1, 0), true}, {example(), chirps(31, 0, 33, 0), "1", fits(1, 0, 0, 0), false}, {example(), chirps(31, 0, 33, 0), "1", fits(0, 0), false}, {example(), chirps(31, 0, 33, 0), "1", nil, false}, {example(), chirps(31, 0, 33, 0), "1", fits(0, 0, 1, 0, 1, 0), false}, {example(), chirps(31, 0, 33, 0), "1", fits(0, 0, 1, 1), false}, {example(), nil, "0", nil, false}, {example(), nil, "0", fits(0, 0, 0, 0), false},
		{one, both, "1/4", fits(0, -2), true}, {one, both, "1/4", fits(0, 2), true}, {one, both, "1/4", fits(1, 0), true}, {one, both, "1/4", fits(0, 0), false}, {one, both, "0", fits(0, 0), false}, {one, both, "0", fits(0, 1), false}, {one, both, "0", fits(1, 2), false}, {one, both, "1/3", fits(0, 2), false}, {one, both, "1/3", fits(1, 0), true},
		{one, both, "0", fits(2, 0), false}, {one, both, "0", fits(-1, 0), false}, {one, both, "0", fits(1<<62, 0), false}, {one, both, "0", fits(-1<<63, 0), false}, {one, both, "0", fits(1, 4), false}, {one, both, "0", fits(1, -4), false}, {one, both, "0", fits(1, 1<<63-1), false}, {one, both, "0", fits(1, -1<<63), false}, {one, both, "0", fits(-1, 1<<62), false},
		{family(4, 32, 32, 0, 0), both, "1", nil, true}, {family(4, 32, 32, 0, 0), nil, "1", fits(), true}, {family(4, 32, 32, 0, 0), both, "0", fits(0, 0), false}, {family(4, 8, 8, 0, 0), chirps(16, 0), "0", fits(0, -2), true}, {family(4, 8, 8, 0, 0), chirps(16, 0), "0", fits(0, 2), false}, {family(4, 8, 8, 0, 0), chirps(16, 0), "0", fits(0, -1), true}, {family(4, 8, 8, 0, 0), chirps(16, 0), "0", fits(0, 3), false},
	} {
		ok, e := Proves(c.f, c.l, c.least, c.proof)
		is(t, fmt.Sprint(c.f, c.l, c.least, c.proof), ok, e, c.want, api.OK)
	}
}

// changed is a proof with one fit more, less, or another one.
func changed(r *rand.Rand, proof []api.Fit, length int) []api.Fit {
	proof = slices.Clone(proof)
	if len(proof) == 0 || r.Intn(8) == 0 {
		return append(proof, api.Fit{})
	}
	i := r.Intn(len(proof))
	switch r.Intn(8) {
	case 0:
		return proof[1:]
	case 1:
		proof[i].Chirp++
	case 2:
		proof[i].Shift = -proof[i].Shift
	case 3:
		proof[i].Shift = randomNumber(r, length)
	default:
		proof[i].Shift += pick(r, -2, -1, 1, 2)
	}
	return proof
}

// P7.3, P7.4: as the definitions say.
func TestRandomBanks(t *testing.T) {
	r := rand.New(rand.NewSource(2))
	proved, accepted := 0, 0
	for range 1500 {
		f := randomFamily(r, 5)
		l := nearBank(r, f, 6)
		least := randomLeast(r, f, l)
		what := fmt.Sprint(f, l, least)
		missed, e := Misses(f, l, least)
		isList(t, what, missed, e, modelMisses(f, l, least), api.OK)
		m, e := Worst(f, l)
		if want := modelWorst(f, l); want != nil {
			is(t, what, m, e, numOf(want), api.OK)
		} else {
			is(t, what, m, e, "", api.ErrNone)
		}
		proof, e := Prove(f, l, least)
		want, ok := modelProof(f, l, least)
		if !ok {
			isList(t, what, proof, e, nil, api.ErrNone)
			continue
		}
		proved++
		isList(t, what, proof, e, want, api.OK)
		for range 5 {
			ok, e := Proves(f, l, least, proof)
			is(t, fmt.Sprint(what, proof), ok, e, modelProves(f, l, least, proof), api.OK)
			if ok {
				accepted++
			}
			proof = changed(r, proof, f.Length)
		}
	}
	if proved < 300 || proved > 1200 || accepted < proved*5/4 || accepted > proved*4 {
		t.Errorf("%d banks of 1500 are proved; %d proofs are accepted", proved, accepted)
	}
}

// P7.3: the greatest families and banks.
func TestGreatFamilies(t *testing.T) {
	for _, f := range []api.Family{family(48, 20, 39, 20, 39)} {
		l := fullBank()
		missed, e := Misses(f, l, "3/10")
		isList(t, fmt.Sprint(f), missed, e, modelMisses(f, l, "3/10"), api.OK)
		if len(missed) < 30 || len(missed) > 370 {
			t.Errorf("%d points are missed", len(missed))
		}
		m, e := Worst(f, l)
		is(t, fmt.Sprint(f), m, e, numOf(modelWorst(f, l)), api.OK)
	}
}
