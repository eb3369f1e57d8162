package num

import (
	"strings"

	"ringdown/api"
)

const (
	// 10 to the power 2000 has so many bits.
	mostBits = 6644
	// 10 to the power 4000 has so many bits.
	mostTwice = 13288
)

// isHopeless says that a part of a, in lowest terms, is certainly too big: the common denominator of two parts that fit is less than 10 to the power 4000, and a top that is 10 to the power 2000 times as great does not fit.
func (a value) isHopeless() bool {
	most := mostTwice + mostBits + 1
	return a.under.bitLen() > mostTwice || a.top.x.size.bitLen() > most || a.top.y.size.bitLen() > most
}

// write returns the text of a, which need not be in lowest terms, or ErrBig.
func write(a value) (api.Num, api.Errno) {
	if a.isFar() {
		return "", api.ErrBig
	}
	if !a.isReal() {
		a = a.lowest()
		if a.isHopeless() {
			return "", api.ErrBig
		}
	}
	x, xFits := writeReal(a.top.x, a.under)
	y, yFits := writeReal(a.top.y, a.under)
	switch {
	case !xFits || !yFits:
		return "", api.ErrBig
	case y == "0":
		return api.Num(x), api.OK
	case x == "0":
		x = ""
	case !a.top.y.minus:
		x += "+"
	}
	switch y {
	case "1":
		y = ""
	case "-1":
		y = "-"
	}
	return api.Num(x + y + "i"), api.OK
}

// isFar says that a part of a is so great, or so close to 0, that its text is too big in whatever terms; that saves a division of long numbers.
func (a value) isFar() bool {
	for _, part := range [2]nat{a.top.x.size, a.top.y.size} {
		apart := part.bitLen() - a.under.bitLen()
		if len(part) > 0 && (apart > mostBits || apart < -mostBits) {
			return true
		}
	}
	return false
}

func writeReal(x whole, under nat) (string, bool) {
	common := under.gcd(x.size)
	top, topFits := writeNat(x.size.over(common))
	bottom, bottomFits := writeNat(under.over(common))
	if !topFits || !bottomFits {
		return "", false
	}
	if x.minus {
		top = "-" + top
	}
	if bottom != "1" {
		top += "/" + bottom
	}
	return top, true
}

func writeNat(a nat) (string, bool) {
	if a.bitLen() > mostBits {
		return "", false
	}
	text := a.decimal()
	return text, len(text) <= api.MaxDigits
}

// writeAll returns the texts of all values, or ErrBig.
func writeAll(list []value) ([]api.Num, api.Errno) {
	texts := make([]api.Num, len(list))
	for i, a := range list {
		text, e := write(a)
		if e != api.OK {
			return nil, e
		}
		texts[i] = text
	}
	return texts, api.OK
}

// read returns the value of a valid number, or ErrNum.
func read(a api.Num) (value, api.Errno) {
	body, hasI := strings.CutSuffix(string(a), "i")
	if !hasI {
		return readReal(body)
	}
	first, minus, second := splitParts(body)
	y, e := readImaginary(minus, second)
	if e != api.OK || first == "" {
		return y.timesI(), e
	}
	x, e := readReal(first)
	if e != api.OK || x.isZero() {
		return value{}, api.ErrNum
	}
	return x.plus(y.timesI()), api.OK
}

// splitParts cuts a text at the sign of its imaginary part; first is empty if there is no real part.
func splitParts(text string) (first string, minus bool, second string) {
	start := 0
scan:
	for i, c := range []byte(text) {
		switch {
		case c == '-' && i == 0:
			minus, start = true, 1
		case c == '-', c == '+' && i > 0:
			first, minus, start = text[:i], c == '-', i+1
			break scan
		}
	}
	return first, minus, text[start:]
}

func readImaginary(minus bool, text string) (value, api.Errno) {
	y := valueOf(1)
	if text != "" {
		var e api.Errno
		y, e = readUnsigned(text)
		if e != api.OK || y.isZero() || text == "1" {
			return value{}, api.ErrNum
		}
	}
	if minus {
		y = y.negated()
	}
	return y, api.OK
}

func readReal(text string) (value, api.Errno) {
	text, minus := strings.CutPrefix(text, "-")
	x, e := readUnsigned(text)
	if e != api.OK || minus && x.isZero() {
		return value{}, api.ErrNum
	}
	if minus {
		x = x.negated()
	}
	return x, api.OK
}

func readUnsigned(text string) (value, api.Errno) {
	topText, bottomText, hasBottom := strings.Cut(text, "/")
	top, e := readNat(topText)
	if e != api.OK {
		return value{}, e
	}
	bottom := natOf(1)
	if hasBottom {
		bottom, e = readNat(bottomText)
		if e != api.OK || len(bottom) == 0 || bottom.isOne() || !bottom.gcd(top).isOne() {
			return value{}, api.ErrNum
		}
	}
	return fraction(whole{size: top}, bottom), api.OK
}

func readNat(text string) (nat, api.Errno) {
	if len(text) == 0 || len(text) > api.MaxDigits || text[0] == '0' && len(text) > 1 {
		return nil, api.ErrNum
	}
	for _, c := range []byte(text) {
		if c < '0' || c > '9' {
			return nil, api.ErrNum
		}
	}
	return natFrom(text), api.OK
}
