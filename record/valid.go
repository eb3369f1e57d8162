package record

import (
	"ringdown/api"
	"ringdown/num"
)

// mostBits is the greatest number of bits of a channel's samples.
const mostBits = 24

func isFrom(low, n, high int) bool { return low <= n && n <= high }

// areFrom says that all numbers of a list are from -most to most.
func areFrom(list []int, most int) bool {
	for _, n := range list {
		if !isFrom(-most, n, most) {
			return false
		}
	}
	return true
}

func isBook(b []api.Channel) bool {
	if !isFrom(1, len(b), api.MaxChannels) {
		return false
	}
	seen := map[string]bool{}
	for _, c := range b {
		if !num.IsName(c.Name) || seen[c.Name] || !isRate(c.Rate) || !isFrom(2, c.Bits, mostBits) {
			return false
		}
		seen[c.Name] = true
	}
	return true
}

// isRate says that n is a power of 2, and not too great: it has no bit in common with the number before it.
func isRate(n int) bool { return isFrom(1, n, api.MaxRate) && n&(n-1) == 0 }

// isFrame says that f is valid for b, which is a book.
func isFrame(b []api.Channel, f api.Frame) bool {
	if !isFrom(0, f.Start, api.MaxSecond) || len(f.Samples) != len(b) {
		return false
	}
	valid := 0
channels:
	for i, c := range b {
		if len(f.Samples[i]) != c.Rate {
			break
		}
		limit := 1 << (c.Bits - 1)
		for _, x := range f.Samples[i] {
			if !isFrom(-limit, x, limit-1) {
				break channels
			}
		}
		valid++
	}
	return valid == len(b)
}

func areInOrder(l []api.Frame) bool {
	for i := 1; i < len(l); i++ {
		if l[i-1].Start >= l[i].Start {
			return false
		}
	}
	return true
}
