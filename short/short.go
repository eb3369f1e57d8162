// Package short says how long the numbers are that several layers ask for: which are short (chapter 2), and which have few decimal places (chapter 6).
package short

import (
	"strconv"
	"strings"

	"ringdown/api"
	"ringdown/num"
)

// Is reports whether a is a number whose numerators and denominators are at most MaxShort.
func Is(a api.Num) bool {
	for _, partOf := range [2]func(api.Num) (api.Num, api.Errno){num.Re, num.Im} {
		x, e := partOf(a)
		if e != api.OK {
			return false
		}
		top, bottom := fraction(x)
		if !isSmall(top) || !isSmall(bottom) {
			return false
		}
	}
	return true
}

// IsReal reports whether a is short and real.
func IsReal(a api.Num) bool { return num.IsReal(a) && Is(a) }

// HasFewPlaces reports whether a is a real number whose numerator and denominator have at most MaxPlaces digits.
func HasFewPlaces(a api.Num) bool {
	top, bottom := fraction(a)
	return num.IsReal(a) && len(top) <= api.MaxPlaces && len(bottom) <= api.MaxPlaces
}

// fraction returns the digits of the numerator and of the denominator of a real number.
func fraction(x api.Num) (top, bottom string) {
	top, bottom, isFraction := strings.Cut(strings.TrimPrefix(string(x), "-"), "/")
	if !isFraction {
		bottom = "1"
	}
	return top, bottom
}

func isSmall(digits string) bool {
	n, err := strconv.Atoi(digits)
	return err == nil && n <= api.MaxShort
}
