package alert

import (
	"fmt"
	"math/rand"
	"reflect"
	"slices"
	"strings"
	"sync"
	"testing"

	"ringdown/api"
)

func list(n ...int) []int { return n }

func upTo(n int) []int {
	l := make([]int, n)
	for i := range l {
		l[i] = i
	}
	return l
}

func chanceOf(n, of int) api.Chance { return api.Chance{N: n, Of: of} }

// exampleAlert is that of the chapter's examples.
func exampleAlert() api.Alert {
	return api.Alert{Event: "s1", Version: 1, Time: 5, Chance: chanceOf(1, 20), Grid: 1, Cells: list(0, 3)}
}

// laterAlert is a version that is not the first one.
func laterAlert() api.Alert {
	return api.Alert{Event: "s1", Version: 2, Time: 6, Chance: chanceOf(3, 20), Grid: 2, Cells: list(4, 5, 23), Before: 1234567}
}

// withdrawn is an alert that withdraws.
func withdrawn(version, before int) api.Alert {
	return api.Alert{Event: "s1", Version: version, Time: 6, Chance: chanceOf(1, 20), Grid: 1, Withdrawn: true, Before: before}
}

// signer is a key with its secret.
type signer struct {
	key    api.Key
	secret int
}

func signerOf(p, q, exponent int) signer {
	k, secret, e := MakeKey(p, q, exponent)
	if e != api.OK {
		panic(fmt.Sprint(p, q, exponent))
	}
	return signer{k, secret}
}

// exampleSigners have the keys of the chapter's examples.
func exampleSigners() []signer {
	return []signer{signerOf(3, 11, 7), signerOf(5, 7, 5), signerOf(3, 5, 3)}
}

// manySigners have keys that are long enough that no number is a signature by chance.
func manySigners(many int) []signer { return slices.Clone(longSigners()[:many]) }

// longSigners are made once, as that takes a while.
var longSigners = sync.OnceValue(func() []signer {
	primes, exponents := list(32749, 32719, 32717, 32713, 32707, 32693, 32687, 32653, 32647), list(32749, 32719, 3, 32713, 5, 7, 17, 257, 65, 19, 13)
	var l []signer
	for i := range 8 {
		isFit := func(exponent int) bool {
			_, _, e := MakeKey(primes[i], primes[i+1], exponent)
			return e == api.OK
		}
		l = append(l, signerOf(primes[i], primes[i+1], exponents[slices.IndexFunc(exponents, isFit)]))
		exponents = slices.Concat(exponents[1:], exponents[:1])
	}
	return l
})

func keysOf(signers []signer) []api.Key {
	var keys []api.Key
	for _, s := range signers {
		keys = append(keys, s.key)
	}
	return keys
}

func rollBy(signers []signer, quorum int) api.Roll {
	return api.Roll{Keys: keysOf(signers), Quorum: quorum}
}

// signedBy is a notice with the signatures of some signers.
func signedBy(signers []signer, a api.Alert, who ...int) api.Notice {
	n := api.Notice{Alert: a}
	for _, i := range who {
		number, e := Sign(signers[i].key, signers[i].secret, a)
		if e != api.OK {
			panic(fmt.Sprint(a, e))
		}
		n.Signatures = append(n.Signatures, api.Signature{Signer: i, Number: number})
	}
	return n
}

func notices(l ...api.Notice) []api.Notice { return l }

// must returns a result of a call that has no error.
func must[T any](t *testing.T) func(T, api.Errno) T {
	return func(a T, e api.Errno) T {
		t.Helper()
		if e != api.OK {
			t.Fatalf("error %d", e)
		}
		return a
	}
}

// is checks a result; with an error it is the zero value. Lists that are nil or empty are the same.
func is[T any](t *testing.T, what string, got T, e api.Errno, want T, wantError api.Errno) {
	t.Helper()
	if e != wantError || !reflect.DeepEqual(plain(got), plain(want)) {
		t.Errorf("%s: %+v, %d, not %+v, %d", what, got, e, want, wantError)
	}
}

// plain returns a value with all empty lists as nil.
func plain(x any) any {
	v := reflect.New(reflect.TypeOf(x)).Elem()
	v.Set(reflect.ValueOf(x))
	return flat(v).Interface()
}

func flat(v reflect.Value) reflect.Value {
	out := reflect.New(v.Type()).Elem()
	switch v.Kind() {
	case reflect.Struct:
		for i := range v.NumField() {
			out.Field(i).Set(flat(v.Field(i)))
		}
	case reflect.Slice:
		for i := range v.Len() {
			out = reflect.Append(out, flat(v.Index(i)))
		}
	default:
		out.Set(v)
	}
	return out
}

func hasError(t *testing.T, what string, e, want api.Errno) {
	t.Helper()
	if e != want {
		t.Errorf("%s: %d, not %d", what, e, want)
	}
}

func pick[T any](r *rand.Rand, l ...T) T { return l[r.Intn(len(l))] }

// randomSome are some of so many numbers from 0 on.
func randomSome(r *rand.Rand, many int) []int {
	part := r.Intn(5)
	return slices.DeleteFunc(upTo(many), func(int) bool { return r.Intn(4) >= part })
}

// randomAlert is a valid one.
func randomAlert(r *rand.Rand) api.Alert {
	a := api.Alert{Event: pick(r, "a", "b", "s1", "z_9", "a234567890123456"), Version: pick(r, 1, 1, 2, 3, 1+r.Intn(1000)), Time: pick(r, 0, 7, r.Intn(1<<30+1), 1<<30), Grid: 1 + r.Intn(8)}
	a.Chance.Of = pick(r, 1, 2, 20, 1+r.Intn(256), 256)
	a.Chance.N = 1 + r.Intn(a.Chance.Of)
	if a.Version > 1 {
		a.Before = pick(r, 0, r.Intn(api.DigestPrime), api.DigestPrime-1)
	}
	a.Withdrawn = r.Intn(4) == 0
	if !a.Withdrawn {
		many := 6 * a.Grid * a.Grid
		a.Cells = pick(r, list(r.Intn(many)), append(randomSome(r, many-1), many-1))
	}
	return a
}

// copied is an alert that shares no memory with a.
func copied(a api.Alert) api.Alert {
	a.Cells = slices.Clone(a.Cells)
	return a
}

// wrongNames are no names.
func wrongNames() []string {
	return []string{"", "A", "1a", "_a", "a b", "a-b", "a ", " a", "a\n", "a2345678901234567", "ä", "a\x00", "\xff", strings.Repeat("a", 1000)}
}

// beyond are numbers that are a bit, or far, out of a range.
func beyond(low, high int) []int {
	return list(low-1, low-2, high+1, high+2, low-1<<32, high+1<<32, 1<<62, -1<<62, 1<<63-1, -1<<63)
}

// wrongAlerts are not valid because of one thing each.
func wrongAlerts() []api.Alert {
	l := []api.Alert{{}}
	change := func(do func(*api.Alert), froms ...api.Alert) {
		for _, a := range froms {
			wrong := copied(a)
			do(&wrong)
			l = append(l, wrong)
		}
	}
	all := []api.Alert{exampleAlert(), laterAlert(), withdrawn(1, 0), withdrawn(7, 0)}
	for _, name := range wrongNames() {
		change(func(a *api.Alert) { a.Event = name }, all...)
	}
	for _, n := range beyond(1, 1000) {
		change(func(a *api.Alert) { a.Version = n }, all...)
	}
	for _, n := range beyond(0, 1<<30) {
		change(func(a *api.Alert) { a.Time = n }, all...)
	}
	for _, n := range append(beyond(1, 20), 256) {
		change(func(a *api.Alert) { a.Chance.N = n }, all...)
	}
	for _, n := range append(beyond(3, 256), 1, 0) {
		change(func(a *api.Alert) { a.Chance = chanceOf(3, n) }, all...)
	}
	for _, n := range beyond(1, 256) {
		change(func(a *api.Alert) { a.Chance = chanceOf(n, n) }, all...)
	}
	for _, n := range beyond(1, 8) {
		change(func(a *api.Alert) { a.Grid = n }, all...)
	}
	for _, cells := range [][]int{nil, {}, {0, 0}, {3, 0}, {0, 3, 3}, {0, 4, 3}, {-1}, {-1, 0}, {24}, {0, 24}, {0, 1 << 62}, upTo(25), make([]int, 100000)} {
		change(func(a *api.Alert) { a.Cells = cells }, all[:2]...)
	}
	for _, cells := range [][]int{{0}, {1, 2}, {-1}, {6}} {
		change(func(a *api.Alert) { a.Cells = cells }, all[2:]...)
	}
	for _, n := range append(beyond(0, 0), 1234567, api.DigestPrime-1) {
		change(func(a *api.Alert) { a.Before = n }, all[0], all[2])
	}
	for _, n := range beyond(0, api.DigestPrime-1) {
		change(func(a *api.Alert) { a.Before = n }, all[1], all[3])
	}
	change(func(a *api.Alert) { a.Withdrawn = !a.Withdrawn }, all...)
	// A cell of a greater grid.
	change(func(a *api.Alert) { a.Cells = list(6) }, all[0])
	return l
}

// validAlerts are so just yet.
func validAlerts() []api.Alert {
	l := []api.Alert{exampleAlert(), laterAlert(), withdrawn(1, 0), withdrawn(7, 0), withdrawn(1000, api.DigestPrime-1)}
	change := func(from api.Alert, do func(*api.Alert)) {
		do(&from)
		l = append(l, from)
	}
	for _, name := range []string{"a", "z", "a_", "z9", "a23456789012345z", "alert", "end"} {
		change(exampleAlert(), func(a *api.Alert) { a.Event = name })
	}
	change(laterAlert(), func(a *api.Alert) { a.Version, a.Before = 1000, api.DigestPrime-1 })
	change(laterAlert(), func(a *api.Alert) { a.Before = 0 })
	change(exampleAlert(), func(a *api.Alert) { a.Time = 0 })
	change(exampleAlert(), func(a *api.Alert) { a.Time = 1 << 30 })
	for _, c := range []api.Chance{chanceOf(1, 1), chanceOf(1, 256), chanceOf(256, 256), chanceOf(20, 20), chanceOf(100, 101)} {
		change(exampleAlert(), func(a *api.Alert) { a.Chance = c })
	}
	for n := 1; n <= 8; n++ {
		change(exampleAlert(), func(a *api.Alert) { a.Grid, a.Cells = n, upTo(6*n*n) })
		change(exampleAlert(), func(a *api.Alert) { a.Grid, a.Cells = n, list(6*n*n-1) })
		change(withdrawn(1, 0), func(a *api.Alert) { a.Grid = n })
	}
	return l
}

// wrongRolls are not valid because of one thing each.
func wrongRolls() []api.Roll {
	good := rollBy(exampleSigners(), 2)
	l := []api.Roll{{}, {Quorum: 1}, {Keys: []api.Key{}, Quorum: 0}, {Keys: good.Keys[:1]}, {Keys: keysOf(manySigners(8)), Quorum: 9}}
	nine := append(keysOf(manySigners(8)), good.Keys[0])
	l = append(l, api.Roll{Keys: nine, Quorum: 1}, api.Roll{Keys: make([]api.Key, 100000), Quorum: 1})
	for _, n := range beyond(1, 3) {
		l = append(l, api.Roll{Keys: good.Keys, Quorum: n})
	}
	for i := range 3 {
		for _, k := range wrongKeys() {
			keys := slices.Clone(good.Keys)
			keys[i] = k
			l = append(l, api.Roll{Keys: keys, Quorum: 2})
		}
		keys := slices.Clone(good.Keys)
		keys[i] = api.Key{Modulus: keys[(i+1)%3].Modulus, Exponent: 9}
		l = append(l, api.Roll{Keys: keys, Quorum: 2})
		keys = slices.Clone(good.Keys)
		keys[i] = keys[(i+1)%3]
		l = append(l, api.Roll{Keys: keys, Quorum: 1})
	}
	return l
}

// wrongKeys are not plausible because of one number.
func wrongKeys() []api.Key {
	l := []api.Key{{}}
	for _, n := range append(beyond(15, 1<<30), 0) {
		l = append(l, api.Key{Modulus: n, Exponent: 3})
	}
	for _, n := range append(beyond(3, 32749), 0) {
		l = append(l, api.Key{Modulus: 33, Exponent: n})
	}
	return l
}
