package num

import (
	"cmp"
	"math/bits"
	"strconv"
	"strings"
)

// nat is a whole number from 0 on: its words, the lowest one first, the last one not 0. A nat is never changed once it is made, so several of them may share words.
type nat []uint64

const (
	wordBits   = 64
	wordDigits = 19 // decimal digits that always fit a word
	wordTen    = 10_000_000_000_000_000_000
	// From so many words on, three products of halves take less time than one product of wholes.
	splitWords = 40
)

func natOf(w uint64) nat {
	if w == 0 {
		return nil
	}
	return nat{w}
}

func (a nat) trimmed() nat {
	for len(a) > 0 && a[len(a)-1] == 0 {
		a = a[:len(a)-1]
	}
	return a
}

func (a nat) isOne() bool { return len(a) == 1 && a[0] == 1 }

// lowWord returns the lowest word of a.
func (a nat) lowWord() uint64 {
	if len(a) == 0 {
		return 0
	}
	return a[0]
}

func (a nat) bitLen() int {
	if len(a) == 0 {
		return 0
	}
	return (len(a)-1)*wordBits + bits.Len64(a[len(a)-1])
}

func (a nat) compare(b nat) int {
	if len(a) != len(b) {
		return cmp.Compare(len(a), len(b))
	}
	for i := len(a) - 1; i >= 0; i-- {
		if a[i] != b[i] {
			return cmp.Compare(a[i], b[i])
		}
	}
	return 0
}

func (a nat) plus(b nat) nat {
	if len(a) < len(b) {
		a, b = b, a
	}
	if len(b) == 0 {
		return a
	}
	sum := make(nat, len(a)+1)
	copy(sum, a)
	sum.addAt(b, 0)
	return sum.trimmed()
}

// addAt adds b, moved up by some words, to the words of a, which have room for the sum.
func (a nat) addAt(b nat, at int) {
	var carry uint64
	for i, w := range b {
		a[at+i], carry = bits.Add64(a[at+i], w, carry)
	}
	for i := at + len(b); carry != 0; i++ {
		a[i], carry = bits.Add64(a[i], 0, carry)
	}
}

// less returns a - b, where b is at most a.
func (a nat) less(b nat) nat {
	if len(b) == 0 {
		return a
	}
	rest := make(nat, len(a))
	var borrow uint64
	for i, w := range a {
		var other uint64
		if i < len(b) {
			other = b[i]
		}
		rest[i], borrow = bits.Sub64(w, other, borrow)
	}
	return rest.trimmed()
}

func (a nat) times(b nat) nat {
	if len(a) < len(b) {
		a, b = b, a
	}
	half := (len(a) + 1) / 2
	switch {
	case len(b) == 0:
		return nil
	case b.isOne():
		return a
	case len(b) < splitWords:
		return a.timesShort(b)
	case len(b) > half:
		return a.timesSplit(b, half)
	}
	product := make(nat, len(a)+len(b))
	for at := 0; at < len(a); at += len(b) {
		piece := a[at:min(at+len(b), len(a))].trimmed()
		product.addAt(piece.times(b), at)
	}
	return product.trimmed()
}

func (a nat) timesShort(b nat) nat {
	product := make(nat, len(a)+len(b))
	for i, factor := range b {
		row := product[i : i+len(a)]
		var carry uint64
		for j, w := range a {
			high, low := bits.Mul64(w, factor)
			low, c := bits.Add64(low, carry, 0)
			high += c
			row[j], c = bits.Add64(row[j], low, 0)
			carry = high + c
		}
		product[i+len(a)] = carry
	}
	return product.trimmed()
}

// timesSplit makes the product from three products of halves; both numbers have more than half words.
func (a nat) timesSplit(b nat, half int) nat {
	a0, a1 := a[:half].trimmed(), a[half:]
	b0, b1 := b[:half].trimmed(), b[half:]
	low, high := a0.times(b0), a1.times(b1)
	middle := a0.plus(a1).times(b0.plus(b1)).less(low).less(high)
	product := make(nat, len(a)+len(b))
	copy(product, low)
	copy(product[2*half:], high)
	product.addAt(middle, half)
	return product.trimmed()
}

// up returns a times 2 to the power n.
func (a nat) up(n int) nat {
	if len(a) == 0 || n == 0 {
		return a
	}
	words, shift := n/wordBits, uint(n%wordBits)
	moved := make(nat, len(a)+words+1)
	for i, w := range a {
		moved[i+words] |= w << shift
		moved[i+words+1] = w >> (wordBits - shift)
	}
	return moved.trimmed()
}

// down returns a divided by 2 to the power n, rounded down.
func (a nat) down(n int) nat {
	words, shift := n/wordBits, uint(n%wordBits)
	if words >= len(a) {
		return nil
	}
	moved := make(nat, len(a)-words)
	for i := range moved {
		moved[i] = a[i+words] >> shift
		if i+words+1 < len(a) {
			moved[i] |= a[i+words+1] << (wordBits - shift)
		}
	}
	return moved.trimmed()
}

// modulo returns the rest of a divided by w, which is not 0.
func (a nat) modulo(w uint64) uint64 {
	var rest uint64
	for i := len(a) - 1; i >= 0; i-- {
		_, rest = bits.Div64(rest, a[i], w)
	}
	return rest
}

func (a nat) divideWord(w uint64) (quotient nat, rest uint64) {
	quotient = make(nat, len(a))
	for i := len(a) - 1; i >= 0; i-- {
		quotient[i], rest = bits.Div64(rest, a[i], w)
	}
	return quotient.trimmed(), rest
}

// divide returns the quotient, rounded down, and the rest of a divided by b, which is not 0.
func (a nat) divide(b nat) (quotient, rest nat) {
	switch {
	case a.compare(b) < 0:
		return nil, a
	case b.isOne():
		return a, nil
	case len(b) == 1:
		quotient, word := a.divideWord(b[0])
		return quotient, natOf(word)
	}
	// The highest bit of the divisor must be set for the guesses of guessWord.
	shift := bits.LeadingZeros64(b[len(b)-1])
	divisor := b.up(shift)
	left := make(nat, len(a)+1)
	copy(left, a.up(shift))
	quotient = make(nat, len(a)-len(b)+1)
	for i := len(quotient) - 1; i >= 0; i-- {
		quotient[i] = left[i : i+len(b)+1].takeOut(divisor)
	}
	return quotient.trimmed(), left.trimmed().down(shift)
}

// over returns a divided by b, which divides it.
func (a nat) over(b nat) nat {
	quotient, _ := a.divide(b)
	return quotient
}

// takeOut takes b out of a as often as it is contained, and returns how often that is: a has one word more than b, and the quotient is less than a word.
func (a nat) takeOut(b nat) uint64 {
	many := guessWord(a, b)
	if many == 0 {
		return 0
	}
	var carry, borrow uint64
	for i, w := range b {
		high, low := bits.Mul64(w, many)
		low, c := bits.Add64(low, carry, 0)
		carry = high + c
		a[i], borrow = bits.Sub64(a[i], low, borrow)
	}
	top := len(b)
	a[top], borrow = bits.Sub64(a[top], carry, borrow)
	if borrow == 0 {
		return many
	}
	carry = 0
	for i, w := range b {
		a[i], carry = bits.Add64(a[i], w, carry)
	}
	a[top] += carry
	return many - 1
}

// guessWord returns how often b is contained in a, or one more, from their highest words.
func guessWord(a, b nat) uint64 {
	high, next := a[len(a)-1], a[len(a)-2]
	first, second := b[len(b)-1], b[len(b)-2]
	guess, rest := uint64(1<<wordBits-1), next
	var c uint64
	if high < first {
		guess, rest = bits.Div64(high, next, first)
	} else if rest, c = bits.Add64(next, first, 0); c != 0 {
		return guess
	}
	for {
		h, l := bits.Mul64(guess, second)
		if h < rest || h == rest && l <= a[len(a)-3] {
			return guess
		}
		guess--
		if rest, c = bits.Add64(rest, first, 0); c != 0 {
			return guess
		}
	}
}

// root returns the square root of a, rounded down.
func (a nat) root() nat {
	if len(a) == 0 {
		return nil
	}
	guess := natOf(1).up((a.bitLen() + 1) / 2)
	for {
		better := guess.plus(a.over(guess)).down(1)
		if better.compare(guess) >= 0 {
			return guess
		}
		guess = better
	}
}

func (a nat) decimal() string {
	if len(a) == 0 {
		return "0"
	}
	var parts []uint64
	for len(a) > 0 {
		var part uint64
		a, part = a.divideWord(wordTen)
		parts = append(parts, part)
	}
	var text strings.Builder
	for i := len(parts) - 1; i >= 0; i-- {
		part := strconv.FormatUint(parts[i], 10)
		if i < len(parts)-1 {
			text.WriteString(strings.Repeat("0", wordDigits-len(part)))
		}
		text.WriteString(part)
	}
	return text.String()
}

// natFrom reads decimal digits.
func natFrom(digits string) nat {
	value := make(nat, 0, len(digits)/wordDigits+1)
	for len(digits) > 0 {
		n := (len(digits)-1)%wordDigits + 1
		var carry uint64
		for _, c := range []byte(digits[:n]) {
			carry = carry*10 + uint64(c-'0')
		}
		digits = digits[n:]
		for i, w := range value {
			high, low := bits.Mul64(w, wordTen)
			var c uint64
			value[i], c = bits.Add64(low, carry, 0)
			carry = high + c
		}
		if carry != 0 {
			value = append(value, carry)
		}
	}
	return value
}
