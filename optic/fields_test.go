package optic

import (
	"math/rand"
	"slices"
	"testing"

	"ringdown/api"
	"ringdown/num"
)

func samePorts(t *testing.T, what string, got []api.Port, e api.Errno, want []api.Port) {
	t.Helper()
	if !slices.Equal(got, want) || e != api.OK {
		t.Errorf("%s: %v, %d, not %v", what, got, e, want)
	}
}

func sameFields(t *testing.T, what string, got []api.Field, e api.Errno, want []api.Field, determined bool) {
	t.Helper()
	switch {
	case !determined && (e != api.ErrSingular || len(got) > 0):
		t.Fatalf("%s: %v, %d, but they are not determined", what, got, e)
	case determined && (e != api.OK || !slices.Equal(got, want)):
		t.Fatalf("%s: %v, %d, not %v", what, got, e, want)
	}
}

func isPower(t *testing.T, what string, got api.Num, e api.Errno, want api.Num, wantError api.Errno) {
	t.Helper()
	if got != want || e != wantError {
		t.Errorf("%s: %s, %d, not %s, %d", what, got, e, want, wantError)
	}
}

// P2.3: the chapter's example, and what single elements do.
func TestFields(t *testing.T) {
	fields, e := Fields(cavity())
	want := []api.Field{
		{In: "-15/17", Out: "1"},
		{In: "1", Out: "-15/17"}, {In: "-6/17", Out: "10/17"},
		{In: "10/17", Out: "-6/17"}, {In: "0", Out: "8/17"},
		{In: "8/17", Out: "0"},
	}
	sameFields(t, "cavity", fields, e, want, true)
	fields, e = Fields(api.Bench{Elements: []api.Element{laser("l", "2-i"), diode("d")}, Links: []api.Link{link(1, 0, 0, 0, "i")}})
	sameFields(t, "laser and diode", fields, e, []api.Field{{In: "0", Out: "2-i"}, {In: "1+2i", Out: "0"}}, true)
	fields, e = Fields(api.Bench{})
	sameFields(t, "nothing", fields, e, nil, true)
	fields, e = Fields(api.Bench{Elements: cavity().Elements})
	sameFields(t, "no links", fields, e, []api.Field{{In: "0", Out: "1"}, {In: "0", Out: "0"}, {In: "0", Out: "0"}, {In: "0", Out: "0"}, {In: "0", Out: "0"}, {In: "0", Out: "0"}}, true)
}

// P2.3: which port of a mirror or a splitter gives how much to which other one.
func TestFieldsOfElements(t *testing.T) {
	r, m, h := api.Num("1/3"), api.Num("-1/3"), api.Num("1/2")
	for _, x := range []struct {
		e    api.Element
		rows [][]api.Num
	}{
		{mirror("e", r, h), [][]api.Num{{m, h}, {h, r}}},
		{splitter("e", r, h), [][]api.Num{{"0", m, h, "0"}, {m, "0", "0", h}, {h, "0", "0", r}, {"0", h, r, "0"}}},
	} {
		for q, column := range x.rows {
			b := api.Bench{Elements: []api.Element{x.e, laser("l", "6i")}, Links: []api.Link{link(0, q, 1, 0, "-1")}}
			fields := must[[]api.Field](t)(Fields(b))
			for p := range column {
				if want := calc(num.Mul(x.rows[p][q], "-6i")); fields[p].Out != want {
					t.Errorf("kind %d, from %d to %d: %s, not %s", x.e.Kind, q, p, fields[p].Out, want)
				}
			}
		}
		rows, e := Scatter(api.Bench{Elements: []api.Element{x.e}})
		if e != api.OK || !slices.EqualFunc(rows, x.rows, slices.Equal[[]api.Num]) {
			t.Errorf("kind %d: %v, %d", x.e.Kind, rows, e)
		}
	}
}

// P2.3, P2.4: fields that are not determined.
func TestSingular(t *testing.T) {
	for _, turn := range list("i", "-i") {
		b := changed(perfect(), func(b *api.Bench) { b.Links[0].Turn = turn })
		fields, e := Fields(b)
		sameFields(t, "two perfect mirrors", fields, e, nil, false)
		power, e := Power(b, "d")
		isPower(t, "Power", power, e, "", api.ErrSingular)
		budget, e := Balance(b)
		if (budget != api.Budget{}) || e != api.ErrSingular {
			t.Errorf("Balance: %v, %d", budget, e)
		}
		fields, e = Lit(b, port(2, 0), "1")
		sameFields(t, "Lit", fields, e, nil, false)
		rows, e := Scatter(b)
		if len(rows) != 0 || e != api.ErrSingular {
			t.Errorf("Scatter: %v, %d", rows, e)
		}
	}
	for _, turn := range list("1", "-1", "3/5+4/5i") {
		b := changed(perfect(), func(b *api.Bench) { b.Links[0].Turn = turn })
		if _, e := Fields(b); e != api.OK {
			t.Errorf("turned by %s: %d", turn, e)
		}
	}
	// Without an open port, too.
	closed := api.Bench{Elements: []api.Element{mirror("m", "0", "1")}, Links: []api.Link{link(0, 0, 0, 1, "-1")}}
	if rows, e := Scatter(closed); len(rows) != 0 || e != api.OK {
		t.Errorf("Scatter of a ring: %v, %d", rows, e)
	}
	closed.Links[0].Turn = "1"
	if rows, e := Scatter(closed); len(rows) != 0 || e != api.ErrSingular {
		t.Errorf("Scatter of a singular ring: %v, %d", rows, e)
	}
}

// P2.3, P2.4, P2.7: all fields, powers and scattering are those of another way to solve the equations.
func TestModel(t *testing.T) {
	r := rand.New(rand.NewSource(3))
	singular := 0
	for range 400 {
		b := randomBench(r, r.Intn(2) == 0, allKinds...)
		want, determined := model(b, nil)
		fields, e := Fields(b)
		sameFields(t, "Fields", fields, e, want, determined)
		if !determined {
			singular++
		}
		checkDiodes(t, b, want, determined)
		open := must[[]api.Port](t)(Open(b))
		rows, e := Scatter(b)
		if !determined && (e != api.ErrSingular || len(rows) != 0) || determined && (e != api.OK || len(rows) != len(open)) {
			t.Fatalf("Scatter: %v, %d", rows, e)
		}
		ports := must[[]api.Port](t)(Ports(b))
		for j, q := range open {
			lit, determined := model(dark(b), map[api.Port]api.Num{q: "2-1/3i"})
			fields, e := Lit(b, q, "2-1/3i")
			sameFields(t, "Lit", fields, e, lit, determined)
			for i, p := range open {
				if !determined {
					break
				}
				if want := lit[slices.Index(ports, p)].Out; calc(num.Mul(rows[i][j], "2-1/3i")) != want {
					t.Fatalf("Scatter, %d and %d: %s, not %s", i, j, rows[i][j], want)
				}
			}
		}
	}
	if singular < 10 || singular > 300 {
		t.Errorf("%d benches are singular", singular)
	}
}

func checkDiodes(t *testing.T, b api.Bench, fields []api.Field, determined bool) {
	t.Helper()
	k := 0
	for _, e := range b.Elements {
		if e.Kind == api.KindDiode {
			power, code := Power(b, e.Name)
			if determined {
				isPower(t, "Power", power, code, calc(num.Norm(fields[k].In)), api.OK)
			} else {
				isPower(t, "Power", power, code, "", api.ErrSingular)
			}
		}
		k += portCounts[e.Kind]
	}
}

// P2.3: the greatest bench, with the longest numbers.
func TestLargest(t *testing.T) {
	fields, e := Fields(largest())
	want, determined := model(largest(), nil)
	sameFields(t, "largest", fields, e, want, determined)
	open := must[[]api.Port](t)(Open(largest()))
	if len(open) != 2 {
		t.Fatalf("open: %v", open)
	}
	lit, e := Lit(largest(), open[1], "-4093/4095-4096/4089i")
	want, determined = model(dark(largest()), map[api.Port]api.Num{open[1]: "-4093/4095-4096/4089i"})
	sameFields(t, "largest, lit", lit, e, want, determined)
	budget := must[api.Budget](t)(Balance(largest()))
	isBalanced(t, largest(), budget)
	if power := must[api.Num](t)(Power(largest(), "d")); power != budget.Diodes {
		t.Errorf("power: %.60s", power)
	}
	powers := must[[]api.Num](t)(Scan(largest(), 3, slices.Repeat(list("-3239/3961-2280/3961i"), 3), "d"))
	if powers[0] != powers[2] {
		t.Errorf("powers: %.60s", powers)
	}
}

// P2.4: which diode there is.
func TestPower(t *testing.T) {
	power, e := Power(cavity(), "d")
	isPower(t, "cavity", power, e, "64/289", api.OK)
	for _, name := range []string{"", "e", "l", "m", "D", "d ", "a2345678901234567"} {
		power, e = Power(cavity(), name)
		isPower(t, "no diode "+name, power, e, "", api.ErrPort)
		power, e = Power(perfect(), name)
		isPower(t, "no diode before ErrSingular", power, e, "", api.ErrPort)
	}
	two := api.Bench{Elements: []api.Element{diode("a"), laser("l", "3+4i"), diode("b")}, Links: []api.Link{link(2, 0, 1, 0, "i")}}
	power, e = Power(two, "b")
	isPower(t, "second diode", power, e, "25", api.OK)
	power, e = Power(two, "a")
	isPower(t, "first diode", power, e, "0", api.OK)
}

// P2.4: budgets.
func TestBalance(t *testing.T) {
	for _, x := range []struct {
		what string
		b    api.Bench
		want api.Budget
	}{
		{"nothing", api.Bench{}, api.Budget{Given: "0", Diodes: "0", Back: "0", Open: "0", Lost: "0"}},
		{"cavity", cavity(), api.Budget{Given: "1", Diodes: "64/289", Back: "225/289", Open: "0", Lost: "0"}},
		{"open laser", api.Bench{Elements: []api.Element{laser("l", "3+4i"), diode("d")}}, api.Budget{Given: "25", Diodes: "0", Back: "0", Open: "25", Lost: "0"}},
		{"two lasers", api.Bench{Elements: []api.Element{laser("l", "1/2"), laser("k", "i")}, Links: []api.Link{link(0, 0, 1, 0, "-i")}}, api.Budget{Given: "5/4", Diodes: "0", Back: "5/4", Open: "0", Lost: "0"}},
		{"loss", api.Bench{Elements: []api.Element{laser("l", "6"), mirror("m", "1/2", "1/3"), diode("d")}, Links: []api.Link{link(0, 0, 1, 1, "1"), link(1, 0, 2, 0, "1")}}, api.Budget{Given: "36", Diodes: "4", Back: "9", Open: "0", Lost: "23"}},
		{"open splitter", api.Bench{Elements: []api.Element{laser("l", "6"), splitter("s", "1/2", "1/3")}, Links: []api.Link{link(0, 0, 1, 3, "1")}}, api.Budget{Given: "36", Diodes: "0", Back: "0", Open: "13", Lost: "23"}},
	} {
		if got, e := Balance(x.b); got != x.want || e != api.OK {
			t.Errorf("%s: %v, %d, not %v", x.what, got, e, x.want)
		}
	}
}

// P2.7: errors of Lit, in their order, and what it lights.
func TestLit(t *testing.T) {
	b := changed(cavity(), func(b *api.Bench) { b.Links = b.Links[1:2] })
	fields, e := Lit(b, port(1, 0), "17")
	sameFields(t, "Lit", fields, e, []api.Field{{In: "0", Out: "0"}, {In: "17", Out: "-15"}, {In: "-6", Out: "10"}, {In: "10", Out: "-6"}, {In: "0", Out: "8"}, {In: "0", Out: "0"}}, true)
	fields, e = Lit(b, port(0, 0), "1-i")
	sameFields(t, "Lit into a laser", fields, e, []api.Field{{In: "1-i", Out: "0"}, {In: "0", Out: "0"}, {In: "0", Out: "0"}, {In: "0", Out: "0"}, {In: "0", Out: "0"}, {In: "0", Out: "0"}}, true)
	fields, e = Lit(b, port(2, 1), "0")
	sameFields(t, "Lit with nothing", fields, e, slices.Repeat([]api.Field{{In: "0", Out: "0"}}, 6), true)
	for _, p := range []api.Port{port(1, 1), port(2, 0), port(0, 1), port(-1, 0), port(4, 0), port(1, 2), port(1, -1)} {
		for _, amplitude := range list("1", "x", "5000") {
			if fields, e := Lit(b, p, amplitude); len(fields) > 0 || e != api.ErrPort {
				t.Errorf("Lit at %v: %v, %d", p, fields, e)
			}
		}
	}
	for _, amplitude := range list("", "x", "4097", "1/4097", "1+4097i", "2/4", "-5000i") {
		for _, x := range []struct {
			b api.Bench
			p api.Port
		}{{b, port(1, 0)}, {perfect(), port(0, 0)}} {
			if fields, e := Lit(x.b, x.p, amplitude); len(fields) > 0 || e != api.ErrBench {
				t.Errorf("Lit with %s: %v, %d", amplitude, fields, e)
			}
		}
	}
	if fields, e := Lit(perfect(), port(0, 0), "4096-1/4096i"); len(fields) > 0 || e != api.ErrSingular {
		t.Errorf("Lit of perfect mirrors: %v, %d", fields, e)
	}
}

// P2.7: the chapter's example.
func TestScatter(t *testing.T) {
	c := cavity()
	b := api.Bench{Elements: c.Elements[1:3], Links: []api.Link{link(0, 1, 1, 0, "1")}}
	rows, e := Scatter(b)
	if e != api.OK || !slices.EqualFunc(rows, [][]api.Num{{"-15/17", "8/17"}, {"8/17", "15/17"}}, slices.Equal[[]api.Num]) {
		t.Errorf("Scatter: %v, %d", rows, e)
	}
	rows, e = Scatter(c)
	if e != api.OK || len(rows) != 0 {
		t.Errorf("Scatter of what is closed: %v, %d", rows, e)
	}
	rows, e = Scatter(api.Bench{Elements: c.Elements[:1]})
	if e != api.OK || !slices.EqualFunc(rows, [][]api.Num{{"0"}}, slices.Equal[[]api.Num]) {
		t.Errorf("Scatter of a laser: %v, %d", rows, e)
	}
}
