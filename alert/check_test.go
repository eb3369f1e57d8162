package alert

import (
	"fmt"
	"math/rand"
	"reflect"
	"slices"
	"testing"

	"ringdown/api"
)

// arguments are what all functions are called with.
type arguments struct {
	a, b   api.Alert
	k      signer
	number int
	roll   api.Roll
	n      api.Notice
	l      []api.Notice
	cells  []int
	chance api.Chance
}

func randomArguments(seed int64) arguments {
	r := rand.New(rand.NewSource(seed))
	x := arguments{a: randomAlert(r), b: randomAlert(r), number: r.Intn(15), cells: list(1, 2, 5), chance: chanceOf(1, 1+r.Intn(9))}
	x.a.Version, x.a.Before, x.a.Withdrawn, x.a.Cells = 1, 0, false, list(0, 1, 4)
	var signers []signer
	x.roll, signers = randomRoll(r)
	x.k = signers[0]
	x.n = signedBy(signers, x.a, upTo(len(signers))...)
	x.l = append(randomNotices(r, signers, 20), x.n)
	return x
}

// results are those of all functions and methods, and their errors.
func results(x arguments) []any {
	var all []any
	two := func(result any, e api.Errno) { all = append(all, result, e) }
	all = append(all, CheckAlert(x.a), CheckRoll(x.roll), CheckNotice(x.roll, x.n), Same(x.a, x.b))
	text, e := Print(x.a)
	two(text, e)
	a, e := Parse(text)
	two(a, e)
	two(Digest(x.a))
	two(Sign(x.k.key, x.k.secret, x.a))
	two(Signed(x.k.key, x.a, x.number))
	a, e = Draft(x.a.Event, x.a.Time, api.Candidate{Chance: x.chance}, 1, 2, x.cells)
	two(a, e)
	a, e = Follow(x.a, 1<<30, x.chance, 2, x.cells)
	two(a, e)
	a, e = Withdraw(x.a, 1<<30)
	two(a, e)
	standings, e := Settle(x.roll, x.l)
	two(standings, e)
	forks, e := Forks(x.roll, x.l)
	two(forks, e)
	b, e := NewBoard(x.roll)
	all = append(all, e, b.Post(x.n))
	a, e = b.Force(x.a.Event)
	two(a, e)
	return append(all, b.History(x.a.Event), b.Notices())
}

// spoil overwrites all lists in a value, also behind their ends.
func spoil(v reflect.Value) {
	switch v.Kind() {
	case reflect.Interface:
		spoil(v.Elem())
	case reflect.Struct:
		for i := range v.NumField() {
			spoil(v.Field(i))
		}
	case reflect.Slice:
		v = v.Slice(0, v.Cap())
		for i := range v.Len() {
			spoil(v.Index(i))
			v.Index(i).SetZero()
		}
	}
}

func spoilAll(all []any) {
	for _, x := range all {
		spoil(reflect.ValueOf(x))
	}
}

// P10.9, P1, P2: arguments are neither changed nor kept, and results are the same each time, whatever is done with those before.
func TestArgumentsAndResults(t *testing.T) {
	for seed := range int64(300) {
		x := randomArguments(seed)
		first := results(x)
		if !reflect.DeepEqual(x, randomArguments(seed)) {
			t.Fatalf("%v: arguments were changed", randomArguments(seed))
		}
		for i, result := range first {
			if e, ok := result.(api.Errno); ok && e != api.OK {
				t.Fatalf("%v: result %d: %d", x, i, e)
			}
		}
		spoilAll(first)
		if !reflect.DeepEqual(x, randomArguments(seed)) {
			t.Fatalf("%v: results share memory with arguments", randomArguments(seed))
		}
		if second, third := results(x), results(randomArguments(seed)); !reflect.DeepEqual(second, third) {
			t.Fatalf("%v, %v", second, third)
		}
	}
}

// behind returns a list with the same elements, and room behind them.
func behind[T any](l []T) []T {
	room := slices.Concat(l, make([]T, 20))
	return room[:len(l)]
}

// P10.9: what is behind the end of an argument is not changed either.
func TestBehindArguments(t *testing.T) {
	for seed := range int64(100) {
		x := randomArguments(seed)
		want := results(x)
		x.a.Cells, x.cells, x.roll.Keys, x.n.Signatures, x.l = behind(x.a.Cells), behind(x.cells), behind(x.roll.Keys), behind(x.n.Signatures), behind(x.l)
		for i := range x.l {
			x.l[i].Signatures, x.l[i].Alert.Cells = behind(x.l[i].Signatures), behind(x.l[i].Alert.Cells)
		}
		got := results(x)
		if !reflect.DeepEqual(got, want) {
			t.Fatalf("%v, not %v", got, want)
		}
		spoilAll(got)
		isKept := isBehind(x.a.Cells) && isBehind(x.cells) && isBehind(x.roll.Keys) && isBehind(x.n.Signatures) && isBehind(x.l)
		for _, n := range x.l {
			isKept = isKept && isBehind(n.Signatures) && isBehind(n.Alert.Cells)
		}
		if !isKept {
			t.Fatalf("%v: something behind was changed", x)
		}
	}
}

func isBehind[T any](l []T) bool {
	return !slices.ContainsFunc(l[:len(l)+20][len(l):], func(y T) bool { return !reflect.ValueOf(y).IsZero() })
}

// P10.7, P10.9, R4: a board keeps copies, and gives out copies.
func TestBoardKeepsCopies(t *testing.T) {
	for seed := range int64(200) {
		x := randomArguments(seed)
		board := must[*Board](t)(NewBoard(x.roll))
		hasError(t, "Post", board.Post(x.n), api.OK)
		spoilAll([]any{x.a, x.roll, x.n, x.l, x.cells})
		want := randomArguments(seed)
		event := want.a.Event
		for range 2 {
			a, e := board.Force(event)
			is(t, "Force", a, e, want.a, api.OK)
			history, all := board.History(event), board.Notices()
			is(t, "History", history, api.OK, []api.Alert{want.a}, api.OK)
			is(t, "Notices", all, api.OK, notices(want.n), api.OK)
			spoilAll([]any{a, history, all})
		}
		// The keys are still those that the board was made with, and so is the digest of what it has.
		hasError(t, "again", board.Post(want.n), api.ErrVersion)
		next := must[api.Alert](t)(Follow(want.a, 1<<30, chanceOf(1, 1), 1, list(0)))
		n := api.Notice{Alert: next}
		for i, k := range want.roll.Keys {
			n.Signatures = append(n.Signatures, api.Signature{Signer: i, Number: modelPower(modelDigest(next), secretFor(k), k.Modulus)})
		}
		hasError(t, "next", board.Post(n), api.OK)
		is(t, "Notices", board.Notices(), api.OK, notices(want.n, n), api.OK)
	}
}

// secretFor returns the secret of a key of the tests.
func secretFor(k api.Key) int {
	all := slices.Concat(exampleSigners(), []signer{signerOf(17, 19, 5), signerOf(7, 13, 5), signerOf(101, 103, 7)}, manySigners(8))
	return all[slices.IndexFunc(all, func(s signer) bool { return s.key == k })].secret
}

// P2: two boards with the same notices do not know of each other.
func TestTwoBoards(t *testing.T) {
	signers := exampleSigners()
	one, other := newBoard(t, signers, 1), newBoard(t, signers, 1)
	first := signedBy(signers, exampleAlert(), 0)
	hasError(t, "one", one.Post(first), api.OK)
	shows(t, other, "s1", api.Alert{}, api.ErrNone)
	is(t, "Notices", other.Notices(), api.OK, nil, api.OK)
	hasError(t, "other", other.Post(signedBy(signers, withdrawn(1, 0), 0)), api.OK)
	shows(t, one, "s1", exampleAlert(), api.OK, exampleAlert())
	shows(t, other, "s1", api.Alert{}, api.ErrWithdrawn, withdrawn(1, 0))
}

// R3: nil and empty arguments are the same.
func TestNilAndEmpty(t *testing.T) {
	signers := exampleSigners()
	r := rollBy(signers, 1)
	for _, none := range [][]int{nil, {}} {
		a := withdrawn(1, 0)
		a.Cells = none
		text, e := Print(a)
		is(t, "Print", text, e, modelText(a), api.OK)
		hasError(t, "CheckNotice", CheckNotice(r, signedBy(signers, a, 0)), api.OK)
		a.Withdrawn = false
		hasError(t, "CheckAlert", CheckAlert(a), api.ErrAlert)
		got, e := Draft("a", 1, candidateOf(1, 1), 1, 1, none)
		is(t, "Draft", got, e, api.Alert{}, api.ErrAlert)
		got, e = Follow(exampleAlert(), 9, chanceOf(1, 1), 1, none)
		is(t, "Follow", got, e, api.Alert{}, api.ErrAlert)
	}
	for _, none := range [][]api.Signature{nil, {}} {
		hasError(t, "CheckNotice", CheckNotice(r, api.Notice{Alert: exampleAlert(), Signatures: none}), api.ErrQuorum)
	}
	for _, none := range [][]api.Notice{nil, {}} {
		settles(t, "Settle", r, none)
		hasForks(t, "Forks", r, none)
	}
	for _, none := range [][]api.Key{nil, {}} {
		hasError(t, fmt.Sprint(none), CheckRoll(api.Roll{Keys: none}), api.ErrRoll)
	}
}
