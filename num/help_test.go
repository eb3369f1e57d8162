package num

import (
	"math/big"
	"math/rand"
	"slices"
	"strings"
	"testing"

	"ringdown/api"
)

// pair is a complex rational number as the library has it.
type pair struct{ x, y *big.Rat }

func zeros(n int) string { return strings.Repeat("0", n) }

func nines(n int) api.Num { return api.Num(strings.Repeat("9", n)) }

// text writes a number in another way than the program does.
func (a pair) text() api.Num {
	y := a.y.RatString()
	switch {
	case a.y.Sign() == 0:
		return api.Num(a.x.RatString())
	case y == "1" || y == "-1":
		y = strings.TrimSuffix(y, "1")
	}
	if a.x.Sign() == 0 {
		return api.Num(y + "i")
	}
	if a.y.Sign() > 0 {
		y = "+" + y
	}
	return api.Num(a.x.RatString() + y + "i")
}

func (a pair) plus(b pair) pair {
	return pair{new(big.Rat).Add(a.x, b.x), new(big.Rat).Add(a.y, b.y)}
}

func (a pair) less(b pair) pair {
	return pair{new(big.Rat).Sub(a.x, b.x), new(big.Rat).Sub(a.y, b.y)}
}

func (a pair) times(b pair) pair {
	product := func(p, q *big.Rat) *big.Rat { return new(big.Rat).Mul(p, q) }
	return pair{
		new(big.Rat).Sub(product(a.x, b.x), product(a.y, b.y)),
		new(big.Rat).Add(product(a.x, b.y), product(a.y, b.x)),
	}
}

func (a pair) norm() *big.Rat { return a.times(pair{a.x, new(big.Rat).Neg(a.y)}).x }

func (a pair) over(b pair) pair {
	c := a.times(pair{b.x, new(big.Rat).Neg(b.y)})
	n := b.norm()
	return pair{new(big.Rat).Quo(c.x, n), new(big.Rat).Quo(c.y, n)}
}

func (a pair) isZero() bool { return a.x.Sign() == 0 && a.y.Sign() == 0 }

func pairOf(n int64) pair { return pair{big.NewRat(n, 1), new(big.Rat)} }

// randomRat is often 0, 1 or -1, and sometimes long.
func randomRat(r *rand.Rand) *big.Rat {
	switch r.Intn(8) {
	case 0:
		return new(big.Rat)
	case 1:
		return big.NewRat(int64(2*r.Intn(2)-1), 1)
	case 2:
		return big.NewRat(r.Int63()-1<<62, r.Int63()+1)
	case 3:
		a := new(big.Int).Rand(r, new(big.Int).Lsh(big.NewInt(1), 500))
		b := new(big.Int).Rand(r, new(big.Int).Lsh(big.NewInt(1), 300))
		return new(big.Rat).SetFrac(a, b.Add(b, big.NewInt(1)))
	}
	return big.NewRat(int64(r.Intn(41)-20), int64(r.Intn(12)+1))
}

func randomPair(r *rand.Rand) pair {
	if r.Intn(3) == 0 {
		return pair{randomRat(r), new(big.Rat)}
	}
	return pair{randomRat(r), randomRat(r)}
}

func smallPair(r *rand.Rand) pair {
	small := func() *big.Rat { return big.NewRat(int64(r.Intn(19)-9), int64(r.Intn(5)+1)) }
	if r.Intn(2) == 0 {
		return pair{small(), new(big.Rat)}
	}
	return pair{small(), small()}
}

func randomPairs(r *rand.Rand, n int, one func(*rand.Rand) pair) []pair {
	list := make([]pair, n)
	for i := range list {
		list[i] = one(r)
	}
	return list
}

func texts(list []pair) []api.Num {
	l := make([]api.Num, len(list))
	for i, a := range list {
		l[i] = a.text()
	}
	return l
}

func list(l ...api.Num) []api.Num { return l }

func same(t *testing.T, what string, got api.Num, e api.Errno, want api.Num) {
	t.Helper()
	if got != want || e != api.OK {
		t.Fatalf("%s: %s, %d, not %s", what, got, e, want)
	}
}

// sameOrBig wants a number, or ErrBig if that has too many digits.
func sameOrBig(t *testing.T, what string, got api.Num, e api.Errno, want pair) {
	t.Helper()
	if !want.fits() {
		fails(t, what, got, e, api.ErrBig)
		return
	}
	same(t, what, got, e, want.text())
}

func (a pair) fits() bool {
	for _, n := range []*big.Int{a.x.Num(), a.x.Denom(), a.y.Num(), a.y.Denom()} {
		if len(new(big.Int).Abs(n).String()) > api.MaxDigits {
			return false
		}
	}
	return true
}

func sameList(t *testing.T, what string, got []api.Num, e api.Errno, want []api.Num) {
	t.Helper()
	if !slices.Equal(got, want) || e != api.OK {
		t.Fatalf("%s: %s, %d, not %s", what, got, e, want)
	}
}

// fails checks an error of one number, and that there is no number with it.
func fails(t *testing.T, what string, got api.Num, e, want api.Errno) {
	t.Helper()
	if got != "" || e != want {
		t.Errorf("%s: %q, %d, not %d", what, got, e, want)
	}
}

func failsList(t *testing.T, what string, got []api.Num, e, want api.Errno) {
	t.Helper()
	if len(got) != 0 || e != want {
		t.Errorf("%s: %s, %d, not %d", what, got, e, want)
	}
}

// must returns a result of a call that has no error.
func must[T any](t *testing.T) func(T, api.Errno) T {
	return func(a T, e api.Errno) T {
		t.Helper()
		if e != api.OK {
			t.Fatalf("error %d", e)
		}
		return a
	}
}
