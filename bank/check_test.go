package bank

import (
	"math/rand"
	"reflect"
	"slices"
	"testing"

	"ringdown/api"
)

// arguments are what all functions are called with.
type arguments struct {
	length, shift, t, parts int
	a, b                    api.Chirp
	f                       api.Family
	l                       []api.Chirp
	least                   api.Num
	proof                   []api.Fit
	data                    []int
	variance, floor, window int
}

func randomArguments(seed int64) arguments {
	r := rand.New(rand.NewSource(seed))
	a := arguments{length: randomLength(r), a: heardChirp(r), b: heardChirp(r), f: randomFamily(r, 4), parts: 1, variance: 1 + r.Intn(9), floor: r.Intn(9), window: 1 + r.Intn(9)}
	a.shift = randomNumber(r, a.length-1)
	// All points are in the bank, so that there is a proof.
	a.l = append(randomBank(r, 4), modelPoints(a.f)...)
	slices.SortFunc(a.l, compareChirps)
	a.l = slices.Compact(a.l)
	a.least = randomLeast(r, a.f, a.l)
	a.proof, _ = modelProof(a.f, a.l, a.least)
	a.data = append(randomData(r, a.length, 40, a.l), randomList(r, a.length, 99)...)
	a.t = r.Intn(len(a.data) - a.length + 1)
	return a
}

// results are those of all functions, and their errors.
func results(a arguments) []any {
	var all []any
	two := func(x any, e api.Errno) { all = append(all, x, e) }
	all = append(all, CheckChirp(a.length, a.a), CheckBank(a.length, a.l))
	w, e := Wave(a.length, a.a)
	two(w, e)
	two(Norm(a.length, a.a))
	two(Overlap(a.length, a.a, a.b, a.shift))
	two(Match(a.length, a.a, a.b))
	p, e := Points(a.f)
	two(p, e)
	m, e := Misses(a.f, a.l, a.least)
	two(m, e)
	if len(p) > 0 {
		two(Worst(a.f, a.l))
	}
	proof, e := Prove(a.f, a.l, a.least)
	two(proof, e)
	two(Proves(a.f, a.l, a.least, a.proof))
	l, e := Build(a.f, a.least)
	two(l, e)
	out, e := Filter(a.length, a.a, a.data)
	two(out, e)
	h, e := Hits(a.length, a.l, a.data, a.variance, a.floor)
	two(h, e)
	h, e = Loudest(a.length, a.l, a.data, a.variance, a.floor, a.window)
	two(h, e)
	two(Misfit(a.length, a.a, a.data, a.t, a.parts))
	two(Sure(a.length, a.a, a.window, a.variance, a.floor))
	return all
}

// spoil overwrites all lists of results, also behind their ends.
func spoil(all []any) {
	for _, a := range all {
		switch l := a.(type) {
		case []int:
			fill(l, 77)
		case []api.Chirp:
			fill(l, chirp(77, 77))
		case []api.Fit:
			fill(l, api.Fit{Chirp: 77})
		case []api.Hit:
			fill(l, api.Hit{Time: 77})
		}
	}
}

func fill[T any](l []T, x T) {
	l = l[:cap(l)]
	for i := range l {
		l[i] = x
	}
}

// P7.9, P1, P2: arguments are neither changed nor kept, and results are the same each time, whatever is done with those before.
func TestArgumentsAndResults(t *testing.T) {
	for seed := range int64(200) {
		a := randomArguments(seed)
		first := results(a)
		if !reflect.DeepEqual(a, randomArguments(seed)) {
			t.Fatalf("%v: arguments were changed", randomArguments(seed))
		}
		for i, x := range first {
			if e, ok := x.(api.Errno); ok && e != api.OK {
				t.Fatalf("%v: result %d: %d", a, i, e)
			}
		}
		spoil(first)
		if !reflect.DeepEqual(a, randomArguments(seed)) {
			t.Fatalf("%v: results share memory with arguments", randomArguments(seed))
		}
		if second, third := results(a), results(randomArguments(seed)); !reflect.DeepEqual(second, third) {
			t.Fatalf("%v, %v", second, third)
		}
	}
}

// P7.9: what is behind the end of an argument is not changed either.
func TestBehindArguments(t *testing.T) {
	data, l := make([]int, 9, 20), append(make([]api.Chirp, 0, 20), chirps(31, 0, 33, 0)...)
	fill(data[9:], 5)
	fill(l[2:], chirp(5, 5))
	hits := must[[]api.Hit](t)(Hits(4, l, data, 1, 0))
	if best := must[[]api.Hit](t)(Loudest(4, l, data, 1, 0, 1)); len(hits)+len(best) > 0 {
		t.Errorf("hits in nothing: %v, %v", hits, best)
	}
	must[[]api.Fit](t)(Prove(example(), l, "1"))
	if !slices.Equal(data[:20][9:], slices.Repeat(list(5), 11)) || !slices.Equal(l[:20][2:], slices.Repeat(chirps(5, 5), 18)) {
		t.Errorf("%v, %v", data[:20], l[:20])
	}
}

// P1: nil and empty arguments are the same.
func TestNilAndEmpty(t *testing.T) {
	f := family(4, 32, 32, 0, 0)
	for _, none := range [][]api.Chirp{nil, {}} {
		hasError(t, "CheckBank", CheckBank(4, none), api.OK)
		missed, e := Misses(example(), none, "0")
		isList(t, "Misses", missed, e, list(0, 1), api.OK)
		m, e := Worst(example(), none)
		is(t, "Worst", m, e, "0", api.OK)
		proof, e := Prove(f, none, "0")
		isList(t, "Prove", proof, e, nil, api.OK)
		h, e := Hits(4, none, list(1, 2, 3, 4), 1, 0)
		isList(t, "Hits", h, e, nil, api.OK)
		h, e = Loudest(4, none, list(1, 2, 3, 4), 1, 0, 1)
		isList(t, "Loudest", h, e, nil, api.OK)
		for _, proof := range [][]api.Fit{nil, {}} {
			ok, e := Proves(f, none, "0", proof)
			is(t, "Proves", ok, e, true, api.OK)
			ok, e = Proves(example(), none, "0", proof)
			is(t, "Proves", ok, e, false, api.OK)
		}
	}
	for _, none := range lists(nil, list()) {
		out, e := Filter(4, chirp(16, 0), none)
		isList(t, "Filter", out, e, nil, api.OK)
		h, e := Hits(4, chirps(16, 0), none, 1, 0)
		isList(t, "Hits", h, e, nil, api.OK)
		h, e = Loudest(4, chirps(16, 0), none, 1, 0, 1)
		isList(t, "Loudest", h, e, nil, api.OK)
		m, e := Misfit(4, chirp(16, 0), none, 0, 1)
		is(t, "Misfit", m, e, "", api.ErrRange)
	}
}
