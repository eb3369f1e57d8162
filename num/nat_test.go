package num

import (
	"math/big"
	"math/rand"
	"testing"
)

// toBig and the like compare with the library, which the program itself does not use.
func toBig(a nat) *big.Int {
	b := new(big.Int)
	for i := len(a) - 1; i >= 0; i-- {
		b.Or(b.Lsh(b, wordBits), new(big.Int).SetUint64(a[i]))
	}
	return b
}

// randomNat has many words that are all zeros or all ones, at which carries go wrong.
func randomNat(r *rand.Rand, words int) nat {
	a := make(nat, words)
	for i := range a {
		switch r.Intn(5) {
		case 0:
			a[i] = 0
		case 1:
			a[i] = 1<<64 - 1
		case 2:
			a[i] = uint64(r.Intn(3))
		default:
			a[i] = r.Uint64()
		}
	}
	return a.trimmed()
}

func sameNat(t *testing.T, what string, got nat, want *big.Int) {
	t.Helper()
	if len(got) > 0 && got[len(got)-1] == 0 {
		t.Fatalf("%s: a leading zero", what)
	}
	if toBig(got).Cmp(want) != 0 {
		t.Fatalf("%s: %s, not %s", what, toBig(got), want)
	}
}

func eachPair(f func(r *rand.Rand, a, b nat)) {
	r := rand.New(rand.NewSource(1))
	for n := range 6000 {
		most := 10
		if n%60 == 0 {
			most = 5 * splitWords
		}
		f(r, randomNat(r, r.Intn(most)), randomNat(r, r.Intn(most)))
	}
}

func TestNatSums(t *testing.T) {
	eachPair(func(r *rand.Rand, a, b nat) {
		x, y := toBig(a), toBig(b)
		sameNat(t, "plus", a.plus(b), new(big.Int).Add(x, y))
		sameNat(t, "times", a.times(b), new(big.Int).Mul(x, y))
		if a.compare(b) != x.Cmp(y) {
			t.Fatalf("compare of %s and %s", x, y)
		}
		if a.compare(b) >= 0 {
			sameNat(t, "less", a.less(b), new(big.Int).Sub(x, y))
		}
	})
}

func TestNatQuotients(t *testing.T) {
	eachPair(func(r *rand.Rand, a, b nat) {
		if len(b) == 0 {
			return
		}
		quotient, rest := a.divide(b)
		wantQuotient, wantRest := new(big.Int).QuoRem(toBig(a), toBig(b), new(big.Int))
		sameNat(t, "quotient", quotient, wantQuotient)
		sameNat(t, "rest", rest, wantRest)
		sameNat(t, "exact quotient", a.times(b).over(b), toBig(a))
		sameNat(t, "modulo", natOf(a.modulo(b[0]|1)), new(big.Int).Mod(toBig(a), new(big.Int).SetUint64(b[0]|1)))
	})
}

func TestNatDivisors(t *testing.T) {
	eachPair(func(r *rand.Rand, a, b nat) {
		common := randomNat(r, r.Intn(6))
		for _, f := range []nat{natOf(1), common} {
			x, y := a.times(f), b.times(f)
			sameNat(t, "gcd", x.gcd(y), new(big.Int).GCD(nil, nil, toBig(x), toBig(y)))
		}
	})
}

func TestNatBits(t *testing.T) {
	eachPair(func(r *rand.Rand, a, b nat) {
		x, n := toBig(a), r.Intn(200)
		sameNat(t, "up", a.up(n), new(big.Int).Lsh(x, uint(n)))
		sameNat(t, "down", a.down(n), new(big.Int).Rsh(x, uint(n)))
		sameNat(t, "root", a.root(), new(big.Int).Sqrt(x))
		if a.bitLen() != x.BitLen() {
			t.Fatalf("bitLen of %s", x)
		}
	})
}

func TestNatTexts(t *testing.T) {
	eachPair(func(r *rand.Rand, a, b nat) {
		x := toBig(a)
		if a.decimal() != x.String() {
			t.Fatalf("decimal of %s: %s", x, a.decimal())
		}
		sameNat(t, "natFrom", natFrom(x.String()), x)
	})
	sameNat(t, "natFrom of a multiple of a word of digits", natFrom("1"+zeros(3*wordDigits)), toBig(natOf(wordTen).times(natOf(wordTen)).times(natOf(wordTen))))
}

// TestFields checks that the fields are what exactness rests on: different primes of the promised size, each with a root of -1.
func TestFields(t *testing.T) {
	many, last := 0, uint64(1)<<62
	for f := range fields() {
		p := new(big.Int).SetUint64(f.prime)
		if f.prime >= last || f.prime>>primeBits != 1 || !p.ProbablyPrime(20) {
			t.Fatalf("%d is no prime after %d", f.prime, last)
		}
		if f.times(f.i, f.i) != f.prime-1 || f.times(f.inverse(f.i), f.i) != 1 {
			t.Fatalf("%d is no root of -1 modulo %d", f.i, f.prime)
		}
		last = f.prime
		if many++; many == 300 {
			break
		}
	}
	for _, n := range []uint64{3215031751, 3825123056546413051, 318665857834031151, 2251799813685249, 41 * 43} {
		if isPrime(n) {
			t.Errorf("%d is no prime", n)
		}
	}
}
