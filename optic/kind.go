package optic

import (
	"ringdown/api"
	"ringdown/num"
	"ringdown/short"
)

// kind is what all elements of a kind share: their word in a text, how many ports they have, which of their fields are numbers (in the order of the text), whether such numbers are valid, and what goes out at a port.
type kind struct {
	word    string
	ports   int
	numbers func(e *api.Element) []*api.Num
	fits    func(e api.Element) bool
	rule    func(e api.Element, port int) rule
}

// rule is what goes out at a port: an amplitude of its own, and what goes into some ports of the same element, times factors.
type rule struct {
	own   api.Num
	terms []term
}

// term is what goes into a port, times a factor.
type term struct {
	port   int
	factor api.Num
}

// kinds has all kinds by their codes; there is none with the code 0.
func kinds() [api.KindSplitter + 1]kind {
	return [...]kind{
		api.KindLaser:    {"laser", 1, amplitudeOf, hasShortAmplitude, laserRule},
		api.KindDiode:    {"diode", 1, noNumbers, always, diodeRule},
		api.KindMirror:   {"mirror", 2, ratiosOf, hasRatios, mirrorRule},
		api.KindSplitter: {"splitter", 4, ratiosOf, hasRatios, splitterRule},
	}
}

func isKind(code int) bool { return code > 0 && code <= api.KindSplitter }

// kindOf returns the kind of an element that has one.
func kindOf(e api.Element) kind { return kinds()[e.Kind] }

// codeOf returns the code of the kind with a word, or 0.
func codeOf(word string) int {
	for code, k := range kinds() {
		if isKind(code) && k.word == word {
			return code
		}
	}
	return 0
}

func amplitudeOf(e *api.Element) []*api.Num { return []*api.Num{&e.Amplitude} }

func noNumbers(*api.Element) []*api.Num { return nil }

func ratiosOf(e *api.Element) []*api.Num { return []*api.Num{&e.Reflect, &e.Transmit} }

func hasShortAmplitude(e api.Element) bool { return short.Is(e.Amplitude) }

func always(api.Element) bool { return true }

func hasRatios(e api.Element) bool {
	return isRatio(e.Reflect) && isRatio(e.Transmit) && compare(sure(num.Add(power(e.Reflect), power(e.Transmit))), "1") <= 0
}

func laserRule(e api.Element, _ int) rule { return rule{own: e.Amplitude} }

func diodeRule(api.Element, int) rule { return rule{own: "0"} }

func mirrorRule(e api.Element, port int) rule { return twoTerms(e, 1-port, port, port == 0) }

// splitterRule follows the numbers of the ports: across are 0 and 2, and 1 and 3; neighbours are 0 and 1, and 2 and 3.
func splitterRule(e api.Element, port int) rule {
	return twoTerms(e, (port+2)%4, port^1, port < 2)
}

// twoTerms is the rule of a port that gets what is transmitted from the port across, and what is reflected from the one beside it, with the opposite sign on one side.
func twoTerms(e api.Element, across, beside int, isOpposite bool) rule {
	reflect := e.Reflect
	if isOpposite {
		reflect = sure(num.Neg(reflect))
	}
	return rule{own: "0", terms: []term{{across, e.Transmit}, {beside, reflect}}}
}
