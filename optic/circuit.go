package optic

import (
	"iter"
	"slices"

	"ringdown/api"
	"ringdown/num"
)

// circuit is the elements of a bench, and how its ports are joined.
type circuit struct {
	elements []api.Element
	ports    []api.Port
	joined   []api.Port
	places   map[api.Port]int // in joined
	wires    map[api.Port]wire
}

// wire is from where something goes into a port, and by what it is multiplied on its way.
type wire struct {
	from api.Port
	turn api.Num
}

// flow is what goes into all ports of a circuit.
type flow struct {
	circuit
	in map[api.Port]api.Num
}

// newCircuit takes in a bench that is valid, but for turns that need not be short.
func newCircuit(b api.Bench) circuit {
	c := circuit{elements: b.Elements, ports: portsOf(b), places: map[api.Port]int{}, wires: map[api.Port]wire{}}
	for _, l := range b.Links {
		c.wires[l.A] = wire{l.B, l.Turn}
		c.wires[l.B] = wire{l.A, l.Turn}
	}
	for _, p := range c.ports {
		if c.isJoined(p) {
			c.places[p] = len(c.joined)
			c.joined = append(c.joined, p)
		}
	}
	return c
}

func (c circuit) isJoined(p api.Port) bool {
	_, ok := c.wires[p]
	return ok
}

func (c circuit) open() []api.Port { return slices.DeleteFunc(slices.Clone(c.ports), c.isJoined) }

func (c circuit) rule(p api.Port) rule {
	e := c.elements[p.Element]
	return kindOf(e).rule(e, p.Port)
}

// equations gives an equation for each joined port: the factors of what goes into all joined ports, and what these products add up to. Only these are unknown: all other ports would be more than num solves. Light is what goes in at open ports, where that is not 0.
func (c circuit) equations(light map[api.Port]api.Num) iter.Seq2[[]api.Num, api.Num] {
	return func(yield func([]api.Num, api.Num) bool) {
		for i, p := range c.joined {
			w := c.wires[p]
			r := c.rule(w.from)
			factors := slices.Repeat([]api.Num{"0"}, len(c.joined))
			factors[i] = "1"
			total := sure(num.Mul(w.turn, r.own))
			for _, t := range r.terms {
				from := api.Port{Element: w.from.Element, Port: t.port}
				factor := sure(num.Mul(w.turn, t.factor))
				if k, ok := c.places[from]; ok {
					factors[k] = sure(num.Sub(factors[k], factor))
				} else if amplitude, ok := light[from]; ok {
					total = sure(num.Add(total, sure(num.Mul(factor, amplitude))))
				}
			}
			if !yield(factors, total) {
				return
			}
		}
	}
}

// flow returns what goes in with some light at open ports, or ErrSingular.
func (c circuit) flow(light map[api.Port]api.Num) (flow, api.Errno) {
	var rows [][]api.Num
	var totals []api.Num
	for factors, total := range c.equations(light) {
		rows = append(rows, factors)
		totals = append(totals, total)
	}
	solution, e := num.Solve(rows, totals)
	if e != api.OK {
		return flow{}, e
	}
	f := flow{c, map[api.Port]api.Num{}}
	for _, p := range c.ports {
		k, isJoined := c.places[p]
		amplitude, isLit := light[p]
		switch {
		case isJoined:
			f.in[p] = solution[k]
		case isLit:
			f.in[p] = amplitude
		default:
			f.in[p] = "0"
		}
	}
	return f, api.OK
}

// out returns what goes out at a port.
func (f flow) out(p api.Port) api.Num {
	r := f.rule(p)
	total := r.own
	for _, t := range r.terms {
		in := f.in[api.Port{Element: p.Element, Port: t.port}]
		total = sure(num.Add(total, sure(num.Mul(t.factor, in))))
	}
	return total
}

func (f flow) fields() []api.Field {
	fields := make([]api.Field, len(f.ports))
	for i, p := range f.ports {
		fields[i] = api.Field{In: f.in[p], Out: f.out(p)}
	}
	return fields
}

// powerInto returns the power that goes into a port, or ErrSingular.
func powerInto(b api.Bench, port api.Port) (api.Num, api.Errno) {
	f, e := newCircuit(b).flow(nil)
	if e != api.OK {
		return "", e
	}
	return power(f.in[port]), api.OK
}

// withTurn returns b with a link turned by t, whether the product is short or not.
func withTurn(b api.Bench, link int, t api.Num) api.Bench {
	links := slices.Clone(b.Links)
	links[link].Turn = sure(num.Mul(links[link].Turn, t))
	return api.Bench{Elements: slices.Clone(b.Elements), Links: links}
}

// darkened returns b with lasers that give nothing.
func darkened(b api.Bench) api.Bench {
	elements := slices.Clone(b.Elements)
	for i, e := range elements {
		if e.Kind == api.KindLaser {
			elements[i].Amplitude = "0"
		}
	}
	return api.Bench{Elements: elements, Links: b.Links}
}
