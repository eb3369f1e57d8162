package num

import (
	"iter"
	"slices"
)

// poly is a polynomial with coefficients that are whole in both parts, the constant one first and the last one not 0. Chains are made of these, because fractions would be brought to lowest terms over and over.
type poly []gauss

// wholePoly returns p times a whole number greater than 0.
func wholePoly(p []value) poly {
	return poly(wholeRow(p, commonUnder(p))).shortened()
}

// shortened returns p divided by the greatest whole number that divides it, after its highest coefficient was made real; a real polynomial keeps its signs.
func (p poly) shortened() poly {
	if len(p) == 0 {
		return nil
	}
	if highest := p[len(p)-1]; !highest.isReal() {
		p = p.mapped(highest.conjugate().times)
	}
	highest := p[len(p)-1]
	common := highest.x.size
	for _, c := range p {
		common = c.common(common)
	}
	return p.mapped(func(c gauss) gauss { return c.over(common) })
}

func (p poly) mapped(f func(gauss) gauss) poly {
	list := make(poly, len(p))
	for k, c := range p {
		list[k] = f(c)
	}
	return list
}

// rest returns the rest of p divided by q, times a whole number greater than 0; the highest coefficient of q is real.
func (p poly) rest(q poly) poly {
	highest := q[len(q)-1].x
	for len(p) >= len(q) {
		last, offset := len(p)-1, len(p)-len(q)
		top := p[last]
		if highest.minus {
			top = top.negated()
		}
		p = p[:last].mapped(func(c gauss) gauss { return c.timesNat(highest.size) })
		for k, c := range q[:len(q)-1] {
			p[offset+k] = p[offset+k].less(c.times(top))
		}
		p = p.trimmed()
	}
	return p
}

func (p poly) trimmed() poly {
	for len(p) > 0 && p[len(p)-1].isZero() {
		p = p[:len(p)-1]
	}
	return p
}

// chain gives p and q, and then again and again what is left of the last but one, divided by the last one, with the opposite sign, all of them times numbers greater than 0 if they are real. The last one divides all of them.
func chain(p, q poly) iter.Seq[poly] {
	return func(yield func(poly) bool) {
		if len(p) == 0 {
			p, q = q, nil
		}
		for len(p) > 0 && yield(p) && len(q) > 0 {
			p, q = q, p.rest(q).mapped(gauss.negated).shortened()
		}
	}
}

func lastOf(polys iter.Seq[poly]) poly {
	var last poly
	for p := range polys {
		last = p
	}
	return last
}

// monic returns p divided by its highest coefficient, which is real.
func (p poly) monic() []value {
	list := make([]value, len(p))
	for k, c := range p {
		highest := p[len(p)-1].x
		if highest.minus {
			c = c.negated()
		}
		list[k] = value{c, highest.size}.lowest()
	}
	return list
}

// sturm returns the chain of a real polynomial that is not 0 and of its derivative, or that of the polynomial that has the same zeros once each.
func sturm(p poly) []poly {
	links := slices.Collect(chain(p, p.derived()))
	repeated := links[len(links)-1]
	if len(repeated) == 1 {
		return links
	}
	single := make([]value, len(p)-len(repeated)+1)
	for k, c := range quotients(p.monic(), repeated.monic()) {
		single[k] = c
	}
	p = wholePoly(single)
	return slices.Collect(chain(p, p.derived()))
}

// zerosBetween returns how many different zeros a real polynomial that is not 0 has that are greater than low, and at most high: as many as the changes of sign that its chain loses on the way (Sturm).
func zerosBetween(p poly, low, high value) int {
	var atLow, atHigh signs
	for _, link := range sturm(p) {
		atLow.add(link.signAt(low))
		atHigh.add(link.signAt(high))
	}
	return atLow.changes - atHigh.changes
}

func (p poly) derived() poly {
	list := make(poly, len(p)-1)
	for k := range list {
		list[k] = p[k+1].timesNat(natOf(uint64(k + 1)))
	}
	return list.shortened()
}

// signs counts changes of sign; zeros do not count.
type signs struct{ last, changes int }

func (s *signs) add(sign int) {
	if sign == 0 {
		return
	}
	if sign == -s.last {
		s.changes++
	}
	s.last = sign
}

// signAt returns the sign of a real polynomial at a real number.
func (p poly) signAt(a value) int {
	var total whole
	scale := natOf(1)
	for k := len(p) - 1; k >= 0; k-- {
		total = total.times(a.top.x).plus(p[k].x.timesNat(scale))
		scale = scale.times(a.under)
	}
	return total.sign()
}
