package record

import (
	"fmt"
	"math/big"
	"strconv"
	"strings"

	"ringdown/api"
)

// What follows is the chapter's definitions again, with bits as texts and with fractions, to compare with.

// modelResidue returns the residue at an index: a sum with binomial coefficients.
func modelResidue(x []int, order, t int) int {
	factors := [][]int{{1}, {1, -1}, {1, -2, 1}, {1, -3, 3, -1}}[order]
	sum := 0
	for i, f := range factors {
		if i <= t {
			sum += f * x[t-i]
		}
	}
	return sum
}

func modelHead(order, k int) string { return fmt.Sprintf("%02b%05b", order, k) }

func modelFolded(x []int, order int) []int {
	var values []int
	for t := range x {
		switch r := modelResidue(x, order, t); {
		case r >= 0:
			values = append(values, 2*r)
		default:
			values = append(values, -2*r-1)
		}
	}
	return values
}

func modelWhole(u int) string { return strings.Repeat("1", 20) + fmt.Sprintf("%032b", u) }

func modelShort(u, k int) string {
	low := fmt.Sprintf("%0*b", k, u%(1<<k))
	return strings.Repeat("1", u/(1<<k)) + "0" + low[len(low)-k:]
}

func modelBits(x []int, order, k int) string {
	bits := modelHead(order, k)
	for _, u := range modelFolded(x, order) {
		if u/(1<<k) < 20 {
			bits += modelShort(u, k)
		} else {
			bits += modelWhole(u)
		}
	}
	return bits
}

// modelBest returns the fewest bits, and the order and the parameter that they have.
func modelBest(x []int) (bits string, order, k int) {
	for o := range 4 {
		for p := range 31 {
			if tried := modelBits(x, o, p); bits == "" || len(tried) < len(bits) {
				bits, order, k = tried, o, p
			}
		}
	}
	return bits, order, k
}

// modelBytes returns bits as bytes, with bits 0 up to a whole one.
func modelBytes(bits string) []byte {
	for len(bits)%8 > 0 {
		bits += "0"
	}
	var bytes []byte
	for ; bits != ""; bits = bits[8:] {
		c, err := strconv.ParseUint(bits[:8], 2, 8)
		if err != nil {
			panic(err)
		}
		bytes = append(bytes, byte(c))
	}
	return bytes
}

// modelSeal returns an inner part, of bits, with all that comes before and behind it.
func modelSeal(bits string) []byte {
	inner := modelBytes(bits)
	return modelChecked(append([]byte{0xA5, 0x5A, byte(len(inner) / 256), byte(len(inner) % 256)}, inner...))
}

// modelChecked returns bytes with their check.
func modelChecked(bytes []byte) []byte {
	check := big.NewInt(0)
	for _, c := range bytes {
		check.Mul(check, big.NewInt(257))
		check.Add(check, big.NewInt(int64(c)+1))
		check.Mod(check, big.NewInt(16777213))
	}
	n := check.Int64()
	return append(append([]byte{}, bytes...), byte(n/65536), byte(n/256%256), byte(n%256))
}

func modelCode(f api.Frame) []byte {
	inner := fmt.Sprintf("%032b", f.Start)
	for _, x := range f.Samples {
		bits, _, _ := modelBest(x)
		inner += bits
	}
	return modelSeal(inner)
}

// modelSalvage looks at each place for a code of each length.
func modelSalvage(b []api.Channel, codes []byte) (l []api.Frame, lost []bool) {
	lost = make([]bool, len(codes))
	for at := 0; at < len(codes); {
		end := at
		for n := at + 1; n <= len(codes) && len(l) < 64 && end == at; n++ {
			f, e := Decode(b, codes[at:n])
			if e == api.OK && (len(l) == 0 || f.Start > l[len(l)-1].Start) {
				l, end = append(l, f), n
			}
		}
		if end == at {
			lost[at] = true
			end++
		}
		at = end
	}
	return l, lost
}

// modelSpans returns the longest spans of what is true, from an index on.
func modelSpans(from int, list []bool) []api.Span {
	var spans []api.Span
	for i, is := range list {
		switch {
		case is && i > 0 && list[i-1]:
			spans[len(spans)-1].To++
		case is:
			spans = append(spans, api.Span{From: from + i, To: from + i + 1})
		}
	}
	return spans
}

// modelBand is the band of a sample, with fractions.
func modelBand(m api.Model, x []int, t int) api.Band {
	low, high := big.NewInt(0), big.NewInt(0)
	for i, tap := range m.Taps {
		if i > t {
			continue
		}
		sample := big.NewInt(int64(x[t-i]))
		a := new(big.Int).Mul(sample, big.NewInt(int64(tap.Low)))
		b := new(big.Int).Mul(sample, big.NewInt(int64(tap.High)))
		if a.Cmp(b) > 0 {
			a, b = b, a
		}
		low.Add(low, a)
		high.Add(high, b)
	}
	divisor := new(big.Int).Exp(big.NewInt(2), big.NewInt(int64(m.Shift)), nil)
	// Div of a positive divisor rounds down; what is rounded up is 1 greater unless nothing is left.
	low.Div(low, divisor)
	up, rest := new(big.Int).DivMod(high, divisor, new(big.Int))
	if rest.Sign() > 0 {
		up.Add(up, big.NewInt(1))
	}
	return api.Band{Low: int(low.Int64()), High: int(up.Int64())}
}

// modelAmplitude is the amplitude of a line in a series with at least one whole period.
func modelAmplitude(shape, x []int) *big.Rat {
	top, bottom := new(big.Rat), new(big.Rat)
	for from := 0; from+len(shape) <= len(x); from += len(shape) {
		for i, s := range shape {
			top.Add(top, big.NewRat(int64(x[from+i])*int64(s), 1))
			bottom.Add(bottom, big.NewRat(int64(s)*int64(s), 1))
		}
	}
	return top.Quo(top, bottom)
}

func modelNum(x *big.Rat) api.Num {
	if x.IsInt() {
		return api.Num(x.Num().String())
	}
	return api.Num(x.String())
}
