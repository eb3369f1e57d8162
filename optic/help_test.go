package optic

import (
	"math/rand"
	"slices"
	"strconv"
	"testing"

	"ringdown/api"
	"ringdown/num"
)

func laser(name string, amplitude api.Num) api.Element {
	return api.Element{Kind: api.KindLaser, Name: name, Amplitude: amplitude}
}

func diode(name string) api.Element { return api.Element{Kind: api.KindDiode, Name: name} }

func mirror(name string, reflect, transmit api.Num) api.Element {
	return api.Element{Kind: api.KindMirror, Name: name, Reflect: reflect, Transmit: transmit}
}

func splitter(name string, reflect, transmit api.Num) api.Element {
	return api.Element{Kind: api.KindSplitter, Name: name, Reflect: reflect, Transmit: transmit}
}

func port(element, port int) api.Port { return api.Port{Element: element, Port: port} }

func link(a, aPort, b, bPort int, turn api.Num) api.Link {
	return api.Link{A: port(a, aPort), B: port(b, bPort), Turn: turn}
}

// cavity is the bench of the chapter's examples.
func cavity() api.Bench {
	return api.Bench{
		Elements: []api.Element{laser("l", "1"), mirror("m", "3/5", "4/5"), mirror("n", "3/5", "4/5"), diode("d")},
		Links:    []api.Link{link(0, 0, 1, 0, "1"), link(1, 1, 2, 0, "1"), link(2, 1, 3, 0, "1")},
	}
}

// michelson is a splitter with two mirrors, a laser and a diode; one arm is turned.
func michelson(turn api.Num) api.Bench {
	return api.Bench{
		Elements: []api.Element{laser("l", "2+i"), splitter("s", "3/5", "4/5"), mirror("x", "1", "0"), mirror("y", "4/5", "3/5"), diode("d")},
		Links:    []api.Link{link(0, 0, 1, 0, "1"), link(1, 2, 2, 0, turn), link(1, 1, 3, 0, "3/5-4/5i"), link(4, 0, 1, 3, "i")},
	}
}

// perfect has light between two mirrors that never leaves; its third element is a diode without a link.
func perfect() api.Bench {
	return api.Bench{
		Elements: []api.Element{mirror("m", "1", "0"), mirror("n", "1", "0"), diode("d")},
		Links:    []api.Link{link(0, 1, 1, 0, "i")},
	}
}

// largest has as many elements and links as there may be, and all numbers are long.
func largest() api.Bench {
	var b api.Bench
	for i := range api.MaxElements {
		b.Elements = append(b.Elements, splitter("s"+strconv.Itoa(i), calc(num.Of(4001+2*i, 4096)), calc(num.Of(500+i, 4095))))
	}
	b.Elements[0] = laser("l", "4095/4096+4091/4093i")
	b.Elements[7] = diode("d")
	turns := list("3905/4033+1008/4033i", "1924/2045-693/2045i", "-3239/3961+2280/3961i")
	joined := [api.MaxLinks][4]int{{0, 0, 1, 0}, {1, 1, 2, 0}, {2, 1, 3, 0}, {3, 1, 4, 0}, {4, 1, 5, 0}, {5, 1, 6, 0}, {6, 1, 7, 0}, {1, 2, 4, 2}, {2, 2, 5, 2}, {3, 2, 6, 2}, {1, 3, 6, 3}, {2, 3, 5, 3}}
	for i, j := range joined {
		b.Links = append(b.Links, link(j[0], j[1], j[2], j[3], turns[i%len(turns)]))
	}
	return b
}

func list(l ...api.Num) []api.Num { return l }

// calc returns a result of num, where no error is expected.
func calc(a api.Num, e api.Errno) api.Num {
	if e != api.OK {
		panic(e)
	}
	return a
}

// must returns a result of a call that has no error.
func must[T any](t *testing.T) func(T, api.Errno) T {
	return func(a T, e api.Errno) T {
		t.Helper()
		if e != api.OK {
			t.Fatalf("error %d", e)
		}
		return a
	}
}

// copyOf shares no memory with b.
func copyOf(b api.Bench) api.Bench {
	return api.Bench{Elements: slices.Clone(b.Elements), Links: slices.Clone(b.Links)}
}

// changed returns a copy of b after a change.
func changed(b api.Bench, change func(b *api.Bench)) api.Bench {
	b = copyOf(b)
	change(&b)
	return b
}

var portCounts = map[int]int{api.KindLaser: 1, api.KindDiode: 1, api.KindMirror: 2, api.KindSplitter: 4}

func pick[T any](r *rand.Rand, l ...T) T { return l[r.Intn(len(l))] }

func randomTurn(r *rand.Rand) api.Num {
	if r.Intn(2) == 0 {
		return pick[api.Num](r, "1", "-1", "i", "-i")
	}
	return calc(num.Unit(calc(num.Of(r.Intn(13)-6, r.Intn(6)+1))))
}

// randomRatios returns Reflect and Transmit; without a loss the sum of their squares is 1.
func randomRatios(r *rand.Rand, lossless bool) (api.Num, api.Num) {
	switch {
	case !lossless && r.Intn(2) == 0:
		return pick[api.Num](r, "0", "1/2", "1/3", "2/3"), pick[api.Num](r, "0", "1/2", "2/3", "5/7")
	case r.Intn(2) == 0:
		return "1", "0"
	case r.Intn(4) == 0:
		return "0", "1"
	}
	u := calc(num.Unit(calc(num.Of(1, r.Intn(4)+2))))
	return calc(num.Re(u)), calc(num.Im(u))
}

// randomBench has elements of the kinds, and as many links as its ports allow, or fewer.
func randomBench(r *rand.Rand, lossless bool, kinds ...int) api.Bench {
	var b api.Bench
	var ports []api.Port
	for i := range r.Intn(api.MaxElements + 1) {
		e := api.Element{Kind: pick(r, kinds...), Name: "e" + strconv.Itoa(i)}
		switch e.Kind {
		case api.KindLaser:
			e.Amplitude = pick[api.Num](r, "0", "1", "-2", "i", "1/2-3i", "3/4")
		case api.KindMirror, api.KindSplitter:
			e.Reflect, e.Transmit = randomRatios(r, lossless)
		}
		b.Elements = append(b.Elements, e)
		for k := range portCounts[e.Kind] {
			ports = append(ports, port(i, k))
		}
	}
	r.Shuffle(len(ports), func(i, j int) { ports[i], ports[j] = ports[j], ports[i] })
	many := min(len(ports)/2, api.MaxLinks)
	if many > 0 && r.Intn(2) == 0 {
		many = r.Intn(many)
	}
	for i := range many {
		b.Links = append(b.Links, api.Link{A: ports[2*i], B: ports[2*i+1], Turn: randomTurn(r)})
	}
	return b
}

var allKinds = []int{api.KindLaser, api.KindDiode, api.KindMirror, api.KindSplitter}

// model solves the equations of the chapter for all ports at once, one after the other, in another way than the program: false if the fields are not determined.
func model(b api.Bench, light map[api.Port]api.Num) ([]api.Field, bool) {
	var ports []api.Port
	for i, e := range b.Elements {
		for k := range portCounts[e.Kind] {
			ports = append(ports, port(i, k))
		}
	}
	in := func(p api.Port) int { return 2 * slices.Index(ports, p) }
	out := func(p api.Port) int { return 2*slices.Index(ports, p) + 1 }
	// An equation is that the sum of factors times unknowns, and the last element, is 0.
	equation := func(left int, last api.Num, others map[int]api.Num) []api.Num {
		row := slices.Repeat(list("0"), 2*len(ports)+1)
		row[left] = "-1"
		row[2*len(ports)] = last
		for i, factor := range others {
			row[i] = calc(num.Add(row[i], factor))
		}
		return row
	}
	var rows [][]api.Num
	for _, p := range ports {
		last, others := api.Num("0"), map[int]api.Num{}
		for _, l := range b.Links {
			if l.A == p {
				others[out(l.B)] = l.Turn
			}
			if l.B == p {
				others[out(l.A)] = l.Turn
			}
		}
		if a, ok := light[p]; ok {
			last = a
		}
		rows = append(rows, equation(in(p), last, others))
	}
	for i, e := range b.Elements {
		t, r := e.Transmit, e.Reflect
		less := func() api.Num { return calc(num.Neg(r)) }
		at := func(k int) int { return in(port(i, k)) }
		switch e.Kind {
		case api.KindLaser:
			rows = append(rows, equation(out(port(i, 0)), e.Amplitude, nil))
		case api.KindDiode:
			rows = append(rows, equation(out(port(i, 0)), "0", nil))
		case api.KindMirror:
			rows = append(rows,
				equation(out(port(i, 0)), "0", map[int]api.Num{at(1): t, at(0): less()}),
				equation(out(port(i, 1)), "0", map[int]api.Num{at(0): t, at(1): r}))
		case api.KindSplitter:
			rows = append(rows,
				equation(out(port(i, 0)), "0", map[int]api.Num{at(2): t, at(1): less()}),
				equation(out(port(i, 1)), "0", map[int]api.Num{at(3): t, at(0): less()}),
				equation(out(port(i, 2)), "0", map[int]api.Num{at(0): t, at(3): r}),
				equation(out(port(i, 3)), "0", map[int]api.Num{at(1): t, at(2): r}))
		}
	}
	return eliminate(rows, len(ports))
}

// eliminate brings rows to a diagonal, and reads the fields of many ports from it.
func eliminate(rows [][]api.Num, many int) ([]api.Field, bool) {
	for k := range rows {
		first := slices.IndexFunc(rows[k:], func(row []api.Num) bool { return row[k] != "0" })
		if first < 0 {
			return nil, false
		}
		rows[k], rows[k+first] = rows[k+first], rows[k]
		for i, row := range rows {
			if i == k || row[k] == "0" {
				continue
			}
			factor := calc(num.Div(row[k], rows[k][k]))
			for j := k; j < len(row); j++ {
				if rows[k][j] != "0" {
					row[j] = calc(num.Sub(row[j], calc(num.Mul(factor, rows[k][j]))))
				}
			}
		}
	}
	value := func(k int) api.Num { return calc(num.Neg(calc(num.Div(rows[k][2*many], rows[k][k])))) }
	fields := make([]api.Field, many)
	for i := range fields {
		fields[i] = api.Field{In: value(2 * i), Out: value(2*i + 1)}
	}
	return fields, true
}

func dark(b api.Bench) api.Bench {
	return changed(b, func(b *api.Bench) {
		for i := range b.Elements {
			if b.Elements[i].Kind == api.KindLaser {
				b.Elements[i].Amplitude = "0"
			}
		}
	})
}
