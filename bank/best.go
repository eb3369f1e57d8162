package bank

import (
	"cmp"
	"iter"
	"math/bits"

	"ringdown/api"
	"ringdown/num"
)

// best returns the greatest of all elements, the first one of several; ok is false if there are none.
func best[T any](all iter.Seq[T], compare func(a, b T) int) (greatest T, ok bool) {
	for x := range all {
		if !ok || compare(x, greatest) > 0 {
			greatest, ok = x, true
		}
	}
	return greatest, ok
}

// quotient is a number that is not negative: top divided by under, which is greater than 0.
type quotient struct{ top, under int }

// compare takes products of two words, as those of one word are too small.
func (q quotient) compare(r quotient) int {
	high, low := bits.Mul64(uint64(q.top), uint64(r.under))
	otherHigh, otherLow := bits.Mul64(uint64(r.top), uint64(q.under))
	return cmp.Or(cmp.Compare(high, otherHigh), cmp.Compare(low, otherLow))
}

func (q quotient) isAtLeast(r quotient) bool { return q.compare(r) >= 0 }

func (q quotient) number() api.Num {
	// There is no error, as under is not 0.
	a, _ := num.Of(q.top, q.under)
	return a
}
