package bank

import (
	"fmt"
	"math/rand"
	"slices"
	"testing"

	"ringdown/api"
)

// P7.5: points that reach most come first, of several the first one; a bank has no more than 64 chirps.
func TestBuild(t *testing.T) {
	full := family(64, 20, 27, 20, 27)
	for _, c := range []struct {
		f     api.Family
		least api.Num
		want  []api.Chirp
		e     api.Errno
	}{
		{family(4, 32, 32, 0, 0), "1", nil, api.OK}, {family(4, 32, 32, 0, 0), "0", nil, api.OK}, {family(4, 16, 16, 0, 0), "1", chirps(16, 0), api.OK}, {example(), "1", chirps(31, 0, 33, 0), api.OK},
		// 33 0 is the opposite of 31 0, and overlaps with it a sample later: 0 -12 25 -37 and 0 12 -25 37.
		{example(), "0", chirps(31, 0), api.OK}, {full, "1", modelPoints(full), api.OK},
		{family(64, 20, 24, 20, 32), "1", nil, api.ErrLimit}, {family(4, 20, 27, 20, 28), "1", nil, api.ErrLimit}, {family(64, 0, 19, 0, 19), "1/2", nil, api.ErrLimit}, {family(64, 0, 63, 0, 5), "1", nil, api.ErrLimit},
	} {
		l, e := Build(c.f, c.least)
		isList(t, fmt.Sprint(c.f, c.least), l, e, c.want, c.e)
	}
	// 65 points, two of which are multiples of each other: 0 -125 125 0 and 0 -127 127 0.
	nearly := family(4, 20, 24, 20, 32)
	want := chirps(21, 25)
	for _, c := range modelPoints(nearly) {
		if c != chirp(21, 25) && c != chirp(24, 24) {
			want = append(want, c)
		}
	}
	l, e := Build(nearly, "1")
	isList(t, fmt.Sprint(nearly), l, e, want, api.OK)
}

// P7.5, P7.11: as the definition says; what is built misses nothing, is proved, and is never worse than what was asked for.
func TestRandomBuilds(t *testing.T) {
	r := rand.New(rand.NewSource(3))
	later := 0
	for range 300 {
		f := randomFamily(r, 6)
		least := randomLeast(r, f, modelPoints(f))
		what := fmt.Sprint(f, least)
		l, e := Build(f, least)
		want, ok := modelBuild(f, least)
		if !ok {
			isList(t, what, l, e, nil, api.ErrLimit)
			continue
		}
		isList(t, what, l, e, want, api.OK)
		if !slices.IsSortedFunc(l, compareChirps) {
			later++
		}
		isProved(t, f, l, least)
	}
	if later < 30 {
		t.Errorf("only %d banks have a later point before an earlier one", later)
	}
}

func compareChirps(a, b api.Chirp) int { return 64*(a.P-b.P) + a.Q - b.Q }

// isProved checks that a bank misses no point of a family.
func isProved(t *testing.T, f api.Family, l []api.Chirp, least api.Num) {
	t.Helper()
	what := fmt.Sprint(f, l, least)
	hasError(t, what, CheckBank(f.Length, l), api.OK)
	missed, e := Misses(f, l, least)
	isList(t, what, missed, e, nil, api.OK)
	proof := must[[]api.Fit](t)(Prove(f, l, least))
	ok, e := Proves(f, l, least, proof)
	is(t, what, ok, e, true, api.OK)
	if m, e := Worst(f, l); e != api.ErrNone && (e != api.OK || ratOf(m).Cmp(ratOf(least)) < 0) {
		t.Errorf("%s: %s, %d", what, m, e)
	}
}

// P7.5: the greatest families, with banks that are nearly as great as may be.
func TestGreatBuilds(t *testing.T) {
	for _, f := range []api.Family{family(64, 0, 19, 0, 19), family(64, 44, 63, 44, 63), family(64, 0, 63, 0, 5), family(63, 0, 5, 0, 63)} {
		for _, least := range nums("1/4", "1/10", "0") {
			l := must[[]api.Chirp](t)(Build(f, least))
			isProved(t, f, l, least)
			if least == "1/4" && len(l) < 40 {
				t.Errorf("%v: only %d chirps", f, len(l))
			}
		}
	}
}

// P7.5: with a point that was put only those are left out that it reaches; each step is the best one for what is missed then.
func TestStepsOfBuilds(t *testing.T) {
	f := family(16, 3, 22, 7, 26)
	l := must[[]api.Chirp](t)(Build(f, "1/3"))
	points := must[[]api.Chirp](t)(Points(f))
	reached := map[api.Chirp][]int{}
	for _, c := range points {
		missed := must[[]int](t)(Misses(f, []api.Chirp{c}, "1/3"))
		for i := range points {
			if !slices.Contains(missed, i) {
				reached[c] = append(reached[c], i)
			}
		}
	}
	for i, c := range l {
		missed := must[[]int](t)(Misses(f, l[:i], "1/3"))
		useful := func(c api.Chirp) (many int) {
			for _, k := range reached[c] {
				if slices.Contains(missed, k) {
					many++
				}
			}
			return many
		}
		for _, other := range points {
			if n := useful(other); n > useful(c) || n == useful(c) && compareChirps(other, c) < 0 {
				t.Errorf("%d: %v is better than %v", i, other, c)
			}
		}
	}
	if len(l) < 10 {
		t.Errorf("only %d chirps", len(l))
	}
}

// P7.11: more chirps never miss more, and a greater least match never misses less; each proof that is accepted proves.
func TestMissesOfMore(t *testing.T) {
	r := rand.New(rand.NewSource(4))
	for range 400 {
		f := randomFamily(r, 6)
		l := nearBank(r, f, 8)
		low, high := randomLeast(r, f, l), randomLeast(r, f, l)
		if ratOf(low).Cmp(ratOf(high)) > 0 {
			low, high = high, low
		}
		what := fmt.Sprint(f, l, low, high)
		missed := must[[]int](t)(Misses(f, l, low))
		isWithin(t, what, missed, must[[]int](t)(Misses(f, l, high)))
		isWithin(t, what, missed, must[[]int](t)(Misses(f, l[:r.Intn(len(l)+1)], low)))
		var proof []api.Fit
		for range modelPoints(f) {
			proof = append(proof, api.Fit{Chirp: r.Intn(len(l) + 1), Shift: randomNumber(r, 2)})
		}
		if must[bool](t)(Proves(f, l, low, proof)) && len(missed) > 0 {
			t.Errorf("%s: %v proves, but %v are missed", what, proof, missed)
		}
	}
}

// isWithin checks that all numbers of a list are in another one.
func isWithin(t *testing.T, what string, some, all []int) {
	t.Helper()
	for _, n := range some {
		if !slices.Contains(all, n) {
			t.Errorf("%s: %d is not in %v", what, n, all)
		}
	}
}
