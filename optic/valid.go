package optic

import (
	"slices"

	"ringdown/api"
	"ringdown/num"
	"ringdown/short"
)

// sure returns a result of num where no error is possible: the numbers are valid, and those that are calculated from short ones never become too long.
func sure(a api.Num, _ api.Errno) api.Num { return a }

// power returns the power of an amplitude.
func power(amplitude api.Num) api.Num { return sure(num.Norm(amplitude)) }

// compare is num.Cmp for real numbers.
func compare(a, b api.Num) int {
	order, _ := num.Cmp(a, b)
	return order
}

func isTurn(t api.Num) bool { return short.Is(t) && power(t) == "1" }

// isRatio says that a is a short real number from 0 on.
func isRatio(a api.Num) bool { return short.IsReal(a) && compare(a, "0") >= 0 }

func areElements(elements []api.Element) bool {
	seen := map[string]bool{}
	for _, e := range elements {
		if !isElement(e) || seen[e.Name] {
			return false
		}
		seen[e.Name] = true
	}
	return true
}

func isElement(e api.Element) bool {
	return isKind(e.Kind) && num.IsName(e.Name) && e == withoutOthers(e) && kindOf(e).fits(e)
}

// withoutOthers returns e with the numbers of its kind alone.
func withoutOthers(e api.Element) api.Element {
	own := api.Element{Kind: e.Kind, Name: e.Name}
	numbers := kindOf(e).numbers(&e)
	for i, n := range kindOf(e).numbers(&own) {
		*n = *numbers[i]
	}
	return own
}

// areLinks looks at the links of a bench whose elements are valid.
func areLinks(b api.Bench) bool {
	ports := portsOf(b)
	used := map[api.Port]bool{}
	for _, l := range b.Links {
		for _, p := range [2]api.Port{l.A, l.B} {
			if !slices.Contains(ports, p) || used[p] {
				return false
			}
			used[p] = true
		}
		if !isTurn(l.Turn) {
			return false
		}
	}
	return true
}

// portsOf returns the ports of valid elements.
func portsOf(b api.Bench) []api.Port {
	var ports []api.Port
	for i, e := range b.Elements {
		for k := range kindOf(e).ports {
			ports = append(ports, api.Port{Element: i, Port: k})
		}
	}
	return ports
}

func isLink(b api.Bench, link int) bool { return link >= 0 && link < len(b.Links) }

// diodePort returns the port of the diode with a name.
func diodePort(b api.Bench, name string) (api.Port, bool) {
	for i, e := range b.Elements {
		if e.Kind == api.KindDiode && e.Name == name {
			return api.Port{Element: i}, true
		}
	}
	return api.Port{}, false
}
