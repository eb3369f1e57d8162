package alert

import (
	"fmt"
	"math/big"
	"math/rand"
	"testing"

	"ringdown/api"
)

func makesKey(t *testing.T, p, q, exponent int, want api.Key, wantSecret int, wantError api.Errno) {
	t.Helper()
	k, secret, e := MakeKey(p, q, exponent)
	if k != want || secret != wantSecret || e != wantError {
		t.Errorf("%d, %d, %d: %v, %d, %d, not %v, %d, %d", p, q, exponent, k, secret, e, want, wantSecret, wantError)
	}
}

func keyOf(modulus, exponent int) api.Key { return api.Key{Modulus: modulus, Exponent: exponent} }

// P10.1: the examples, and the greatest and the least keys.
func TestMakeKey(t *testing.T) {
	makesKey(t, 3, 11, 7, keyOf(33, 7), 3, api.OK)
	makesKey(t, 5, 7, 5, keyOf(35, 5), 5, api.OK)
	makesKey(t, 3, 5, 3, keyOf(15, 3), 3, api.OK)
	makesKey(t, 5, 3, 3, keyOf(15, 3), 3, api.OK)
	// The exponent may be greater than the multiple, and the secret 1.
	makesKey(t, 3, 5, 5, keyOf(15, 5), 1, api.OK)
	makesKey(t, 3, 5, 32749, keyOf(15, 32749), 1, api.OK)
	makesKey(t, 3, 5, 32747, keyOf(15, 32747), 3, api.OK)
	makesKey(t, 32719, 32749, 32749, keyOf(32719*32749, 32749), modelInverse(32749, 32718/6*32748), api.OK)
	for _, c := range [][3]int{{3, 3, 5}, {3, 7, 3}, {4, 7, 5}, {7, 4, 5}, {2, 7, 5}, {7, 2, 5}, {1, 7, 5}, {0, 7, 5}, {-3, 7, 5}, {-7, -3, 5}, {9, 7, 5}, {7, 9, 5}, {32749, 32749, 5}, {32041, 7, 5}, {7, 32041, 5}, {32771, 3, 5}, {3, 32771, 5}, {32399, 3, 5}, {1<<32 + 3, 5, 3}, {1<<61 - 1, 5, 3}, {5, 1<<61 - 1, 3}, {-1 << 63, 5, 3}, {1<<63 - 1, 5, 3}, {5, 1<<63 - 1, 3}} {
		makesKey(t, c[0], c[1], c[2], api.Key{}, 0, api.ErrKey)
	}
	for _, exponent := range append(beyond(3, 32749), 0, 4, 2, 6, 1<<32+3) {
		makesKey(t, 3, 5, exponent, api.Key{}, 0, api.ErrKey)
	}
}

// modelInverse returns the least secret of an exponent, if the multiple is known.
func modelInverse(exponent, multiple int) int {
	return int(new(big.Int).ModInverse(big.NewInt(int64(exponent)), big.NewInt(int64(multiple))).Int64())
}

// P10.1: all small keys are as they are defined.
func TestSmallKeys(t *testing.T) {
	for p := -2; p < 26; p++ {
		for q := -2; q < 26; q++ {
			for exponent := -1; exponent < 50; exponent++ {
				k, secret := modelKey(p, q, exponent)
				e := api.OK
				if secret == 0 {
					e = api.ErrKey
				}
				makesKey(t, p, q, exponent, k, secret, e)
			}
		}
	}
}

// P10.1: all prime numbers up to the greatest one make a key, and no others.
func TestPrimes(t *testing.T) {
	const most = 32749
	isOther := make([]bool, most+100)
	for n := 2; n < len(isOther); n++ {
		for m := 2 * n; m < len(isOther); m += n {
			isOther[m] = true
		}
	}
	for n := range isOther {
		// The exponent is prime, and greater than all divisors of n - 1.
		for _, swap := range []bool{false, true} {
			p, q := n, 5
			if swap {
				p, q = q, p
			}
			_, _, e := MakeKey(p, q, most)
			if isKey := n >= 3 && n <= most && n != 5 && !isOther[n]; isKey != (e == api.OK) {
				t.Errorf("%d: %d", n, e)
			}
		}
	}
}

// P10.1: secrets of long keys are the least ones, and as they are defined.
func TestSecrets(t *testing.T) {
	r := rand.New(rand.NewSource(1))
	primes := list(3, 5, 7, 11, 13, 181, 191, 257, 1009, 4099, 16381, 32687, 32693, 32707, 32713, 32717, 32719, 32749)
	for range 3000 {
		p, q, exponent := pick(r, primes...), pick(r, primes...), 3+r.Intn(32747)
		ring := (p - 1) * (q - 1) / int(new(big.Int).GCD(nil, nil, big.NewInt(int64(p-1)), big.NewInt(int64(q-1))).Int64())
		isKey := p != q && new(big.Int).GCD(nil, nil, big.NewInt(int64(exponent)), big.NewInt(int64((p-1)*(q-1)))).Int64() == 1
		if isKey {
			makesKey(t, p, q, exponent, keyOf(p*q, exponent), modelInverse(exponent, ring), api.OK)
		} else {
			makesKey(t, p, q, exponent, api.Key{}, 0, api.ErrKey)
		}
	}
}

// withDigest is an alert whose digest leaves a rest, divided by a modulus.
func withDigest(rest, modulus int) api.Alert {
	a := exampleAlert()
	for modelDigest(a)%modulus != rest {
		a.Time++
	}
	return a
}

// plausibleKeys are so, also if they are not made of prime numbers.
func plausibleKeys() []api.Key {
	l := append(keysOf(exampleSigners()), keysOf(manySigners(8))...)
	return append(l, keyOf(15, 3), keyOf(15, 4), keyOf(15, 32749), keyOf(16, 3), keyOf(1<<30, 3), keyOf(1<<30, 32749), keyOf(1<<30-1, 32749), keyOf(1<<30-2, 32748), keyOf(1<<15, 5))
}

// P10.3: the example, and signatures with all kinds of keys and secrets.
func TestSign(t *testing.T) {
	number, e := Sign(keyOf(15, 3), 3, withDigest(2, 15))
	is(t, "example", number, e, 8, api.OK)
	for _, a := range validAlerts() {
		for _, k := range plausibleKeys() {
			for _, secret := range list(1, 2, 3, 12345, 1<<29+1, 1<<30-1, 1<<30) {
				number, e := Sign(k, secret, a)
				is(t, fmt.Sprint(k, secret, a), number, e, modelPower(modelDigest(a), secret, k.Modulus), api.OK)
			}
		}
	}
}

// P10.3: ErrKey comes first, then ErrAlert.
func TestErrorsOfSign(t *testing.T) {
	wrong := func(k api.Key, secret int, a api.Alert, want api.Errno) {
		t.Helper()
		number, e := Sign(k, secret, a)
		is(t, fmt.Sprint(k, secret, a), number, e, 0, want)
	}
	for _, k := range wrongKeys() {
		wrong(k, 3, exampleAlert(), api.ErrKey)
		wrong(k, 0, exampleAlert(), api.ErrKey)
		wrong(k, 3, api.Alert{}, api.ErrKey)
		isSigned, e := Signed(k, exampleAlert(), 0)
		is(t, fmt.Sprint(k), isSigned, e, false, api.ErrKey)
		isSigned, e = Signed(k, api.Alert{}, -1)
		is(t, fmt.Sprint(k), isSigned, e, false, api.ErrKey)
	}
	for _, secret := range append(beyond(1, 1<<30), 0) {
		wrong(keyOf(15, 3), secret, exampleAlert(), api.ErrKey)
		wrong(keyOf(15, 3), secret, api.Alert{}, api.ErrKey)
	}
	for _, a := range wrongAlerts() {
		wrong(keyOf(15, 3), 3, a, api.ErrAlert)
		for number := range 15 {
			isSigned, e := Signed(keyOf(15, 3), a, number)
			is(t, fmt.Sprint(a), isSigned, e, false, api.ErrAlert)
		}
		isSigned, e := Signed(keyOf(15, 3), a, -1)
		is(t, fmt.Sprint(a), isSigned, e, false, api.ErrAlert)
	}
}

// P10.3, P10.10: with keys that are made of primes just one number is a signature, that of the secret.
func TestOnlySignature(t *testing.T) {
	signers := append(exampleSigners(), signerOf(3, 11, 3), signerOf(5, 3, 32749), signerOf(13, 7, 5), signerOf(17, 19, 5), signerOf(101, 103, 7))
	r := rand.New(rand.NewSource(2))
	for _, s := range signers {
		for rest := range min(s.key.Modulus, 40) {
			a := randomAlert(r)
			if s.key.Modulus < 50 {
				a = withDigest(rest, s.key.Modulus)
			}
			want := must[int](t)(Sign(s.key, s.secret, a))
			for number := range s.key.Modulus {
				if is := must[bool](t)(Signed(s.key, a, number)); is != (number == want) {
					t.Fatalf("%v, %v, %d, not %d: %v", s, a, number, want, is)
				}
			}
		}
	}
}

// P10.10: signatures with long keys, of which a number beside it is none.
func TestLongSignatures(t *testing.T) {
	r := rand.New(rand.NewSource(3))
	for _, s := range manySigners(8) {
		for range 100 {
			a := randomAlert(r)
			number := must[int](t)(Sign(s.key, s.secret, a))
			for _, c := range []struct {
				number int
				want   bool
			}{{number, true}, {number + 1, false}, {number - 1, false}, {r.Intn(s.key.Modulus), false}, {number + s.key.Modulus, false}, {number - s.key.Modulus, false}} {
				isSigned, e := Signed(s.key, a, c.number)
				is(t, fmt.Sprint(s, a, c.number), isSigned, e, c.want, api.OK)
			}
		}
	}
}

// P10.3: numbers that are none of a modulus are no signatures, whatever rest they leave; other keys may have several signatures, or none.
func TestSigned(t *testing.T) {
	r := rand.New(rand.NewSource(4))
	for _, k := range plausibleKeys() {
		for range 20 {
			a := randomAlert(r)
			numbers := append(beyond(0, k.Modulus-1), 0, 1, 2, k.Modulus-1, k.Modulus/2, modelPower(modelDigest(a), 3, k.Modulus))
			if k.Modulus < 50 {
				numbers = append(numbers, upTo(k.Modulus)...)
				for i := range k.Modulus {
					numbers = append(numbers, i+k.Modulus, i-k.Modulus, i+k.Modulus<<32)
				}
			}
			for _, n := range numbers {
				isSigned, e := Signed(k, a, n)
				is(t, fmt.Sprint(k, a, n), isSigned, e, modelIsSigned(k, a, n), api.OK)
			}
		}
	}
}
