package optic

import (
	"math/rand"
	"strconv"
	"testing"

	"ringdown/api"
)

// P2.1: elements that are valid, and their limits.
func TestCheckElements(t *testing.T) {
	for _, e := range []api.Element{
		laser("l", "0"), laser("a234567890123456", "1"), laser("l", "4096"), laser("l", "-4096-4096i"), laser("l", "1/4096+4095/4096i"), laser("l", "-1/4096i"), laser("l", "2/3+5/7i"),
		diode("d"), diode("d_1"),
		mirror("m", "0", "0"), mirror("m", "1", "0"), mirror("m", "0", "1"), mirror("m", "3/5", "4/5"), mirror("m", "4095/4096", "1/4096"), mirror("m", "1/2", "1/2"),
		splitter("s", "0", "0"), splitter("s", "5/13", "12/13"), splitter("s", "1", "0"), splitter("s", "1/3", "1/7"),
	} {
		if code := Check(api.Bench{Elements: []api.Element{e}}); code != api.OK {
			t.Errorf("%v: %d", e, code)
		}
	}
	for _, e := range []api.Element{
		{}, {Name: "a"}, {Kind: 5, Name: "a"}, {Kind: -1, Name: "a"}, {Kind: 1 << 62, Name: "a"}, {Kind: -1 << 63, Name: "a"}, {Kind: 5, Name: "a", Reflect: "0", Transmit: "0"},
		laser("", "1"), laser("1l", "1"), laser("L", "1"), laser("a2345678901234567", "1"), laser("l.", "1"),
		laser("l", ""), laser("l", "x"), laser("l", "2/4"), laser("l", "4097"), laser("l", "-4097"), laser("l", "1/4097"), laser("l", "4097i"), laser("l", "1+4097i"), laser("l", "1-1/4097i"), laser("l", "10000000000000000000000"), laser("l", "1/10000000000000000000000i"),
		{Kind: api.KindLaser, Name: "l", Amplitude: "1", Reflect: "0"}, {Kind: api.KindLaser, Name: "l", Amplitude: "1", Transmit: "0"},
		diode(""), {Kind: api.KindDiode, Name: "d", Amplitude: "0"}, {Kind: api.KindDiode, Name: "d", Reflect: "0"}, {Kind: api.KindDiode, Name: "d", Transmit: "0"},
		mirror("", "0", "0"), mirror("m", "", "0"), mirror("m", "0", ""), mirror("m", "-3/5", "4/5"), mirror("m", "3/5", "-4/5"), mirror("m", "i", "0"), mirror("m", "0", "1/2i"), mirror("m", "3/5", "5/6"), mirror("m", "1", "1/4096"), mirror("m", "1/4097", "0"), mirror("m", "0", "1/4097"), mirror("m", "2", "0"), mirror("m", "0", "2"), mirror("m", "x", "0"),
		{Kind: api.KindMirror, Name: "m", Reflect: "0", Transmit: "0", Amplitude: "0"},
		splitter("", "0", "0"), splitter("s", "", ""), splitter("s", "-1", "0"), splitter("s", "4/5", "4/5"), splitter("s", "0", "i"), splitter("s", "5000/5001", "0"),
		{Kind: api.KindSplitter, Name: "s", Reflect: "0", Transmit: "0", Amplitude: "1"},
	} {
		if code := Check(api.Bench{Elements: []api.Element{e}}); code != api.ErrBench {
			t.Errorf("%v: %d", e, code)
		}
	}
	if e := Check(api.Bench{Elements: []api.Element{diode("a"), diode("b"), laser("a", "1")}}); e != api.ErrBench {
		t.Errorf("two elements with a name: %d", e)
	}
	if e := Check(api.Bench{}); e != api.OK {
		t.Errorf("nothing: %d", e)
	}
}

// P2.1: links that are valid.
func TestCheckLinks(t *testing.T) {
	elements := []api.Element{laser("l", "1"), diode("d"), mirror("m", "3/5", "4/5"), splitter("s", "3/5", "4/5")}
	check := func(want api.Errno, links ...api.Link) {
		t.Helper()
		if e := Check(api.Bench{Elements: elements, Links: links}); e != want {
			t.Errorf("%v: %d", links, e)
		}
	}
	for _, turn := range list("1", "-1", "i", "-i", "3/5-4/5i", "-3905/4033+1008/4033i") {
		check(api.OK, link(0, 0, 1, 0, turn))
	}
	check(api.OK, link(3, 3, 3, 0, "1"), link(2, 1, 2, 0, "i"), link(3, 2, 1, 0, "1"), link(0, 0, 3, 1, "1"))
	for _, turn := range list("", "x", "0", "2", "1/2", "1+i", "3/5", "3/5+4/6i", "4095/4097+128/4097i", "99999999999999999999") {
		check(api.ErrBench, link(0, 0, 1, 0, turn))
	}
	for _, p := range []api.Port{port(-1, 0), port(4, 0), port(0, 1), port(0, -1), port(1, 1), port(2, 2), port(2, -1), port(3, 4), port(1<<62, 0), port(3, 1<<62)} {
		check(api.ErrBench, api.Link{A: p, B: port(3, 0), Turn: "1"})
		check(api.ErrBench, api.Link{A: port(3, 0), B: p, Turn: "1"})
	}
	check(api.ErrBench, link(3, 0, 3, 0, "1"))
	check(api.ErrBench, link(3, 0, 3, 1, "1"), link(3, 1, 3, 2, "1"))
	check(api.ErrBench, link(3, 0, 3, 1, "1"), link(3, 2, 3, 0, "1"))
	check(api.ErrBench, link(3, 0, 3, 1, "1"), link(3, 0, 3, 1, "1"))
}

func manyDiodes(n int) []api.Element {
	var elements []api.Element
	for i := range n {
		elements = append(elements, diode("d"+strconv.Itoa(i)))
	}
	return elements
}

// P2.1: limits, which come before all else.
func TestCheckLimits(t *testing.T) {
	if e := Check(largest()); e != api.OK {
		t.Errorf("largest: %d", e)
	}
	for _, b := range []api.Bench{
		{Elements: manyDiodes(9)},
		{Elements: make([]api.Element, 9)},
		{Links: make([]api.Link, 13)},
		{Elements: make([]api.Element, 1), Links: make([]api.Link, 13)},
		{Elements: make([]api.Element, 9), Links: make([]api.Link, 1)},
	} {
		if e := Check(b); e != api.ErrLimit {
			t.Errorf("%d elements, %d links: %d", len(b.Elements), len(b.Links), e)
		}
	}
	for _, b := range []api.Bench{
		{Elements: manyDiodes(8)},
		{Elements: []api.Element{splitter("a", "0", "0"), splitter("b", "0", "0"), splitter("c", "0", "0"), splitter("d", "0", "0"), splitter("e", "0", "0"), splitter("f", "0", "0"), splitter("g", "0", "0"), splitter("h", "0", "0")}},
	} {
		if e := Check(b); e != api.OK {
			t.Errorf("8 elements: %d", e)
		}
	}
}

// P2.1: all functions with a bench return the error of Check first, and nothing else.
func TestCheckFirst(t *testing.T) {
	for _, x := range []struct {
		b api.Bench
		e api.Errno
	}{
		{api.Bench{Elements: manyDiodes(9)}, api.ErrLimit},
		{api.Bench{Links: make([]api.Link, 13)}, api.ErrLimit},
		{api.Bench{Elements: []api.Element{diode("d"), diode("d")}}, api.ErrBench},
		{changed(cavity(), func(b *api.Bench) { b.Links[1].Turn = "2" }), api.ErrBench},
		{changed(cavity(), func(b *api.Bench) { b.Elements[2].Reflect = "4/5" }), api.ErrBench},
	} {
		is := func(what string, e api.Errno, isZero bool) {
			t.Helper()
			if e != x.e || !isZero {
				t.Errorf("%s: %d, not %d; zero value: %v", what, e, x.e, isZero)
			}
		}
		text, e := Print(x.b)
		is("Print", e, text == "")
		ports, e := Ports(x.b)
		is("Ports", e, len(ports) == 0)
		ports, e = Open(x.b)
		is("Open", e, len(ports) == 0)
		fields, e := Fields(x.b)
		is("Fields", e, len(fields) == 0)
		power, e := Power(x.b, "none")
		is("Power", e, power == "")
		budget, e := Balance(x.b)
		is("Balance", e, budget == api.Budget{})
		turned, e := Turned(x.b, -1, "x")
		is("Turned", e, Same(turned, api.Bench{}))
		powers, e := Scan(x.b, -1, make([]api.Num, 65), "none")
		is("Scan", e, len(powers) == 0)
		best, e := Best(x.b, -1, nil, "none")
		is("Best", e, best == 0)
		power, e = Dither(x.b, -1, "x", "none")
		is("Dither", e, power == "")
		fields, e = Lit(x.b, port(-1, 0), "x")
		is("Lit", e, len(fields) == 0)
		rows, e := Scatter(x.b)
		is("Scatter", e, len(rows) == 0)
	}
}

// P2.1: Same looks at all fields, of any benches.
func TestSame(t *testing.T) {
	all := api.Bench{Elements: []api.Element{{Kind: 7, Name: "?", Amplitude: "x", Reflect: "y", Transmit: "z"}, diode("d")}, Links: []api.Link{link(8, 9, -1, 3, "t"), link(0, 0, 0, 0, "")}}
	if !Same(all, copyOf(all)) || !Same(cavity(), cavity()) || !Same(api.Bench{}, api.Bench{Elements: []api.Element{}, Links: []api.Link{}}) || !Same(api.Bench{Elements: []api.Element{}}, api.Bench{Links: []api.Link{}}) {
		t.Error("equal benches are not the same")
	}
	for i, change := range []func(b *api.Bench){
		func(b *api.Bench) { b.Elements[0].Kind = 6 },
		func(b *api.Bench) { b.Elements[0].Name = "" },
		func(b *api.Bench) { b.Elements[0].Amplitude = "y" },
		func(b *api.Bench) { b.Elements[0].Reflect = "x" },
		func(b *api.Bench) { b.Elements[0].Transmit = "x" },
		func(b *api.Bench) { b.Elements = b.Elements[:1] },
		func(b *api.Bench) { b.Elements[0], b.Elements[1] = b.Elements[1], b.Elements[0] },
		func(b *api.Bench) { b.Elements = nil },
		func(b *api.Bench) { b.Links[0].A.Element = 7 },
		func(b *api.Bench) { b.Links[0].A.Port = 7 },
		func(b *api.Bench) { b.Links[0].B.Element = 7 },
		func(b *api.Bench) { b.Links[0].B.Port = 7 },
		func(b *api.Bench) { b.Links[0].Turn = "1" },
		func(b *api.Bench) { b.Links[0].A, b.Links[0].B = b.Links[0].B, b.Links[0].A },
		func(b *api.Bench) { b.Links = b.Links[1:] },
		func(b *api.Bench) { b.Links[0], b.Links[1] = b.Links[1], b.Links[0] },
		func(b *api.Bench) { b.Links = nil },
	} {
		other := changed(all, change)
		if Same(all, other) || Same(other, all) {
			t.Errorf("change %d is not seen", i)
		}
	}
}

// P2.3: ports and open ports, ordered.
func TestPorts(t *testing.T) {
	ports, e := Ports(michelson("1"))
	want := []api.Port{port(0, 0), port(1, 0), port(1, 1), port(1, 2), port(1, 3), port(2, 0), port(2, 1), port(3, 0), port(3, 1), port(4, 0)}
	samePorts(t, "Ports", ports, e, want)
	ports, e = Open(michelson("1"))
	samePorts(t, "Open", ports, e, []api.Port{port(2, 1), port(3, 1)})
	ports, e = Ports(cavity())
	if len(ports) != 6 || e != api.OK {
		t.Errorf("Ports of the cavity: %v, %d", ports, e)
	}
	ports, e = Open(cavity())
	samePorts(t, "Open of the cavity", ports, e, nil)
	ports, e = Open(api.Bench{Elements: cavity().Elements})
	samePorts(t, "Open without links", ports, e, []api.Port{port(0, 0), port(1, 0), port(1, 1), port(2, 0), port(2, 1), port(3, 0)})
	ports, e = Ports(api.Bench{})
	samePorts(t, "Ports of nothing", ports, e, nil)
	r := rand.New(rand.NewSource(1))
	for range 50 {
		b := randomBench(r, false, allKinds...)
		all, open := must[[]api.Port](t)(Ports(b)), must[[]api.Port](t)(Open(b))
		if len(all) != len(open)+2*len(b.Links) {
			t.Fatalf("%v: %v, %v", b, all, open)
		}
	}
}
