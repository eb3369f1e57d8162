package optic

import (
	"math/rand"
	"slices"
	"strings"
	"testing"

	"ringdown/api"
	"ringdown/num"
)

func isBalanced(t *testing.T, b api.Bench, budget api.Budget) {
	t.Helper()
	if sum := calc(num.Sum(list(budget.Diodes, budget.Back, budget.Open, budget.Lost))); sum != budget.Given {
		t.Fatalf("%v: %v", b, budget)
	}
	if order, e := num.Cmp(budget.Lost, "0"); order < 0 || e != api.OK {
		t.Fatalf("%v: %s is lost", b, budget.Lost)
	}
}

// P2.9: power is balanced, and nothing is lost where no element loses anything.
func TestPowerIsBalanced(t *testing.T) {
	r := rand.New(rand.NewSource(5))
	lost := 0
	for range 300 {
		lossless := r.Intn(2) == 0
		b := randomBench(r, lossless, allKinds...)
		budget, e := Balance(b)
		if e == api.ErrSingular {
			continue
		}
		isBalanced(t, b, budget)
		if budget.Lost != "0" {
			lost++
		}
		if lossless && budget.Lost != "0" {
			t.Fatalf("%v: %s is lost", b, budget.Lost)
		}
	}
	if lost < 20 {
		t.Errorf("only %d benches lose power", lost)
	}
}

// P2.10: fields are linear, and turns can be taken back.
func TestFieldsAreLinear(t *testing.T) {
	r := rand.New(rand.NewSource(6))
	for range 200 {
		b := randomBench(r, false, allKinds...)
		fields, e := Fields(b)
		if e != api.OK {
			continue
		}
		more := changed(b, func(b *api.Bench) {
			for i, e := range b.Elements {
				if e.Kind == api.KindLaser {
					b.Elements[i].Amplitude = calc(num.Mul(e.Amplitude, "2/3-i"))
				}
			}
		})
		for i, f := range must[[]api.Field](t)(Fields(more)) {
			if f.In != calc(num.Mul(fields[i].In, "2/3-i")) || f.Out != calc(num.Mul(fields[i].Out, "2/3-i")) {
				t.Fatalf("%v: %v, not linear", b, f)
			}
		}
		if len(b.Links) == 0 {
			continue
		}
		link, turn := r.Intn(len(b.Links)), randomTurn(r)
		turned := must[api.Bench](t)(Turned(b, link, turn))
		back := must[api.Bench](t)(Turned(turned, link, calc(num.Conj(turn))))
		if !Same(back, b) {
			t.Fatalf("%v, not %v", back, b)
		}
	}
}

// P2.11: scattering is symmetric, and its rows are orthonormal where nothing is lost.
func TestScatterLaws(t *testing.T) {
	r := rand.New(rand.NewSource(7))
	largest := 0
	for range 200 {
		kinds, lossless := allKinds, r.Intn(2) == 0
		if lossless {
			kinds = allKinds[2:]
		}
		b := randomBench(r, lossless, kinds...)
		rows, e := Scatter(b)
		if e == api.ErrSingular {
			continue
		}
		largest = max(largest, len(rows))
		for i, row := range rows {
			for j, a := range row {
				if a != rows[j][i] || len(row) != len(rows) {
					t.Fatalf("%v: %v, not symmetric", b, rows)
				}
			}
			for j, other := range rows {
				want := api.Num("0")
				if i == j {
					want = "1"
				}
				if lossless && inner(row, other) != want {
					t.Fatalf("%v: rows %d and %d of %v", b, i, j, rows)
				}
			}
		}
	}
	if largest < 10 {
		t.Errorf("at most %d open ports", largest)
	}
}

// inner returns the sum of the products of one row and the conjugates of another one.
func inner(row, other []api.Num) api.Num {
	conjugates := make([]api.Num, len(other))
	for i, a := range other {
		conjugates[i] = calc(num.Conj(a))
	}
	return calc(num.Dot(row, conjugates))
}

// P2.12: without imaginary parts there is no dither; with the conjugate it is the opposite.
func TestDitherLaws(t *testing.T) {
	r := rand.New(rand.NewSource(8))
	some := 0
	for range 600 {
		b := michelson(randomTurn(r))
		if r.Intn(2) == 0 {
			b = randomBench(r, false, allKinds...)
		}
		if len(b.Links) == 0 {
			continue
		}
		real := r.Intn(2) == 0
		if real {
			b = madeReal(b)
		}
		link, turn := r.Intn(len(b.Links)), randomTurn(r)
		for _, e := range b.Elements {
			if e.Kind != api.KindDiode {
				continue
			}
			dither, code := Dither(b, link, turn, e.Name)
			back, code2 := Dither(b, link, calc(num.Conj(turn)), e.Name)
			if code != code2 {
				t.Fatalf("%v: %d and %d", b, code, code2)
			}
			if code == api.ErrSingular {
				continue
			}
			if real && dither != "0" || calc(num.Neg(back)) != dither {
				t.Fatalf("%v, link %d, %s: %s and %s", b, link, turn, dither, back)
			}
			if dither != "0" {
				some++
			}
		}
	}
	if some < 10 {
		t.Errorf("only %d dithers", some)
	}
}

func madeReal(b api.Bench) api.Bench {
	return changed(b, func(b *api.Bench) {
		for i, e := range b.Elements {
			if e.Kind == api.KindLaser {
				b.Elements[i].Amplitude = calc(num.Norm(e.Amplitude))
			}
		}
		for i, l := range b.Links {
			b.Links[i].Turn = "-1"
			if strings.HasPrefix(string(l.Turn), "-") {
				b.Links[i].Turn = "1"
			}
		}
	})
}

// P2.8: arguments stay as they are, also where results are changed.
func TestMemory(t *testing.T) {
	b, turns := michelson("3/5+4/5i"), list("1", "i")
	turned := must[api.Bench](t)(Turned(b, 1, "i"))
	want := changed(b, func(b *api.Bench) { b.Links[1].Turn = "-4/5+3/5i" })
	same, _, _ := Parse(must[string](t)(Print(b)))
	ports, open := must[[]api.Port](t)(Ports(b)), must[[]api.Port](t)(Open(b))
	fields, lit := must[[]api.Field](t)(Fields(b)), must[[]api.Field](t)(Lit(b, port(2, 1), "1"))
	powers := must[[]api.Num](t)(Scan(b, 1, turns, "d"))
	rows := must[[][]api.Num](t)(Scatter(b))
	must[int](t)(Best(b, 1, turns, "d"))
	must[api.Num](t)(Dither(b, 1, "i", "d"))
	must[api.Budget](t)(Balance(b))
	if !Same(b, michelson("3/5+4/5i")) || !slices.Equal(turns, list("1", "i")) {
		t.Fatal("an argument was changed")
	}
	clear(turned.Elements[:cap(turned.Elements)])
	clear(turned.Links[:cap(turned.Links)])
	clear(same.Elements)
	clear(same.Links)
	clear(rows[0][:cap(rows[0])])
	if rows[1][0] == "" || rows[1][1] == "" {
		t.Error("rows share memory")
	}
	clear(ports)
	clear(open)
	clear(fields)
	clear(lit)
	clear(powers)
	if !Same(b, michelson("3/5+4/5i")) || !slices.Equal(turns, list("1", "i")) {
		t.Fatal("a result shares memory with an argument")
	}
	if again := must[api.Bench](t)(Turned(b, 1, "i")); !Same(again, want) {
		t.Error("Turned gives something else again")
	}
	if again := must[[]api.Num](t)(Scan(b, 1, turns, "d")); again[0] == "" {
		t.Error("Scan gives something else again")
	}
}

// P1 and P2: all calls end, without a panic, and give the same again.
func TestAnyArguments(t *testing.T) {
	benches := []api.Bench{{}, cavity(), perfect(), michelson("i"), {Elements: make([]api.Element, 3), Links: make([]api.Link, 3)}, {Links: []api.Link{link(0, 0, 0, 0, "1")}},
		changed(cavity(), func(b *api.Bench) { b.Elements[0].Kind = -1 << 63 }), changed(cavity(), func(b *api.Bench) { b.Elements[1].Kind = 1<<63 - 1 }), changed(cavity(), func(b *api.Bench) { b.Links[0].A.Element = -1 << 63 }), changed(cavity(), func(b *api.Bench) { b.Links[0].B.Port = 1<<63 - 1 })}
	numbers := list("", "0", "1", "i", "x", "3/5-4/5i", "\xff", api.Num(strings.Repeat("9", 3000)))
	names := []string{"", "d", "l", "\x00"}
	ints := []int{0, 1, -1, 1<<63 - 1, -1 << 63}
	texts := []string{"", "\n", " ", "link", "link . . .", "link .0 .0 1", "laser", "diode", "end", "\xff\xfe", strings.Repeat("end\n", 20000)}
	run := func() []any {
		var all []any
		keep := func(results ...any) { all = append(all, results...) }
		for _, b := range benches {
			text, e := Print(b)
			_, line, e2 := Parse(text)
			ports, e3 := Ports(b)
			open, e4 := Open(b)
			fields, e5 := Fields(b)
			budget, e6 := Balance(b)
			rows, e7 := Scatter(b)
			keep(Check(b), Same(b, benches[0]), text, e, line, e2, len(ports), e3, len(open), e4, len(fields), e5, budget, e6, len(rows), e7)
			for _, i := range ints {
				for _, n := range numbers {
					turned, e := Turned(b, i, n)
					lit, e2 := Lit(b, port(i, 0), n)
					lit2, e3 := Lit(b, port(0, i), n)
					keep(len(turned.Links), e, len(lit), e2, len(lit2), e3)
					for _, name := range names {
						power, e := Power(b, name)
						powers, e2 := Scan(b, i, list(n), name)
						best, e3 := Best(b, i, list(n, "1"), name)
						dither, e4 := Dither(b, i, n, name)
						keep(power, e, len(powers), e2, best, e3, dither, e4)
					}
				}
			}
		}
		for _, text := range texts {
			b, line, e := Parse(text)
			keep(len(b.Elements), line, e)
		}
		return all
	}
	if !slices.Equal(run(), run()) {
		t.Error("the same calls give different results")
	}
}
