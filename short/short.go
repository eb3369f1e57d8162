// Package short says which numbers are short (chapter 2), which several layers ask for.
package short

import (
	"strconv"
	"strings"

	"ringdown/api"
	"ringdown/num"
)

// Is reports whether a is a number whose numerators and denominators are at most MaxShort.
func Is(a api.Num) bool {
	for _, partOf := range [2]func(api.Num) (api.Num, api.Errno){num.Re, num.Im} {
		x, e := partOf(a)
		if e != api.OK {
			return false
		}
		top, bottom, hasBottom := strings.Cut(strings.TrimPrefix(string(x), "-"), "/")
		if !isSmall(top) || hasBottom && !isSmall(bottom) {
			return false
		}
	}
	return true
}

// IsReal reports whether a is short and real.
func IsReal(a api.Num) bool { return num.IsReal(a) && Is(a) }

func isSmall(digits string) bool {
	n, err := strconv.Atoi(digits)
	return err == nil && n <= api.MaxShort
}
