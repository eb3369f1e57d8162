package optic

import (
	"math/rand"
	"slices"
	"testing"

	"ringdown/api"
	"ringdown/num"
)

// P2.5: a bench with a link turned.
func TestTurned(t *testing.T) {
	for _, x := range []struct{ old, turn, product api.Num }{
		{"1", "i", "i"}, {"i", "i", "-1"}, {"3/5+4/5i", "3/5-4/5i", "1"}, {"3/5+4/5i", "3/5+4/5i", "-7/25+24/25i"}, {"3905/4033+1008/4033i", "-1", "-3905/4033-1008/4033i"},
	} {
		b := changed(cavity(), func(b *api.Bench) { b.Links[1].Turn = x.old })
		want := changed(cavity(), func(b *api.Bench) { b.Links[1].Turn = x.product })
		if got, e := Turned(b, 1, x.turn); !Same(got, want) || e != api.OK {
			t.Errorf("%s times %s: %v, %d", x.old, x.turn, got, e)
		}
	}
	fails := func(b api.Bench, link int, turn api.Num, want api.Errno) {
		t.Helper()
		if got, e := Turned(b, link, turn); !Same(got, api.Bench{}) || e != want {
			t.Errorf("link %d, %s: %v, %d, not %d", link, turn, got, e, want)
		}
	}
	for _, link := range []int{-1, 3, 1 << 62, -1 << 63} {
		fails(cavity(), link, "1", api.ErrPort)
		fails(cavity(), link, "x", api.ErrPort)
	}
	fails(api.Bench{}, 0, "1", api.ErrPort)
	for _, turn := range list("", "x", "1/2", "0", "2", "1+i", "4095/4097+128/4097i") {
		fails(cavity(), 1, turn, api.ErrTurn)
	}
	long := changed(cavity(), func(b *api.Bench) { b.Links[1].Turn = "3905/4033+1008/4033i" })
	fails(long, 1, "1924/2045-693/2045i", api.ErrTurn)
	fails(long, 1, "3905/4033+1008/4033i", api.ErrTurn)
}

// P2.5: the chapter's examples.
func TestScan(t *testing.T) {
	powers, e := Scan(cavity(), 1, list("1", "i", "-1"), "d")
	if !slices.Equal(powers, list("64/289", "1", "64/289")) || e != api.OK {
		t.Errorf("Scan: %v, %d", powers, e)
	}
	best, e := Best(cavity(), 1, list("1", "i", "-1"), "d")
	if best != 1 || e != api.OK {
		t.Errorf("Best: %d, %d", best, e)
	}
	for _, x := range []struct {
		turns []api.Num
		best  int
	}{{list("1"), 0}, {list("1", "-1"), 0}, {list("1", "-i", "i", "-1"), 1}, {list("i", "-i"), 0}, {list("1", "3/5+4/5i", "-3/5-4/5i", "-i"), 3}, {slices.Repeat(list("i"), 64), 0}} {
		if best, e := Best(cavity(), 1, x.turns, "d"); best != x.best || e != api.OK {
			t.Errorf("Best of %v: %d, %d", x.turns, best, e)
		}
	}
	powers, e = Scan(cavity(), 2, nil, "d")
	if len(powers) != 0 || e != api.OK {
		t.Errorf("Scan of no turns: %v, %d", powers, e)
	}
	powers, e = Scan(perfect(), 0, list(), "d")
	if len(powers) != 0 || e != api.OK {
		t.Errorf("Scan of no turns of perfect mirrors: %v, %d", powers, e)
	}
}

// P2.5: each power is that of the bench with the link turned, also where the product is not short.
func TestScanPowers(t *testing.T) {
	r := rand.New(rand.NewSource(4))
	turns := list("1", "-i", "3/5+4/5i", "-5/13+12/13i", "3905/4033-1008/4033i")
	for range 40 {
		b := michelson(randomTurn(r))
		b.Links[0].Turn = "1924/2045-693/2045i"
		for link := range b.Links {
			powers := must[[]api.Num](t)(Scan(b, link, turns, "d"))
			for i, turn := range turns {
				turned := changed(b, func(b *api.Bench) {
					b.Links[link].Turn = calc(num.Mul(b.Links[link].Turn, turn))
				})
				fields, _ := model(turned, nil)
				if want := calc(num.Norm(fields[9].In)); powers[i] != want {
					t.Fatalf("link %d, %s: %s, not %s", link, turn, powers[i], want)
				}
			}
		}
	}
}

// P2.5, P2.6: errors, in their order.
func TestScanErrors(t *testing.T) {
	many := slices.Repeat(list("1"), 65)
	lossless := perfect()
	for _, x := range []struct {
		b     api.Bench
		link  int
		turns []api.Num
		diode string
		want  api.Errno
	}{
		{cavity(), -1, many, "d", api.ErrPort}, {cavity(), 3, list("x"), "d", api.ErrPort}, {cavity(), 0, many, "l", api.ErrPort}, {cavity(), 0, list("x"), "", api.ErrPort}, {cavity(), 1 << 62, nil, "e", api.ErrPort}, {lossless, 1, list("1"), "d", api.ErrPort}, {lossless, 0, list("1"), "m", api.ErrPort},
		{cavity(), 0, many, "d", api.ErrLimit}, {cavity(), 0, slices.Repeat(list("x"), 65), "d", api.ErrLimit}, {lossless, 0, many, "d", api.ErrLimit},
		{cavity(), 0, list("1", "2"), "d", api.ErrTurn}, {cavity(), 0, list(""), "d", api.ErrTurn}, {lossless, 0, list("1", "0"), "d", api.ErrTurn}, {cavity(), 0, list("4095/4097+128/4097i"), "d", api.ErrTurn}, {cavity(), 0, append(many[:63:63], "2"), "d", api.ErrTurn},
		{lossless, 0, list("1"), "d", api.ErrSingular}, {lossless, 0, list("i", "-1"), "d", api.ErrSingular},
	} {
		powers, e := Scan(x.b, x.link, x.turns, x.diode)
		if len(powers) != 0 || e != x.want {
			t.Errorf("Scan: %v, %d, not %d", powers, e, x.want)
		}
		best, e := Best(x.b, x.link, x.turns, x.diode)
		if best != 0 || e != x.want {
			t.Errorf("Best: %d, %d, not %d", best, e, x.want)
		}
		if len(x.turns) == 1 {
			dither, e := Dither(x.b, x.link, x.turns[0], x.diode)
			isPower(t, "Dither", dither, e, "", x.want)
		}
	}
	if powers, e := Scan(cavity(), 0, many[:64], "d"); len(powers) != 64 || e != api.OK {
		t.Errorf("64 turns: %v, %d", powers, e)
	}
	if powers, e := Scan(lossless, 0, list("i", "3/5+4/5i"), "d"); !slices.Equal(powers, list("0", "0")) || e != api.OK {
		t.Errorf("perfect mirrors: %v, %d", powers, e)
	}
	if best, e := Best(cavity(), 0, nil, "d"); best != 0 || e != api.ErrNone {
		t.Errorf("Best of none: %d, %d", best, e)
	}
	if best, e := Best(cavity(), 0, nil, "e"); best != 0 || e != api.ErrPort {
		t.Errorf("Best of none, without a diode: %d, %d", best, e)
	}
}

// P2.6: what a change of a length does.
func TestDither(t *testing.T) {
	dither, e := Dither(cavity(), 1, "3/5+4/5i", "d")
	isPower(t, "cavity", dither, e, "0", api.OK)
	off := changed(cavity(), func(b *api.Bench) { b.Links[1].Turn = "3/5+4/5i" })
	dither, e = Dither(off, 1, "3/5+4/5i", "d")
	there := must[[]api.Num](t)(Scan(cavity(), 1, list("-7/25+24/25i", "1"), "d"))
	isPower(t, "cavity off its point", dither, e, calc(num.Sub(there[0], there[1])), api.OK)
	if dither == "0" {
		t.Error("no dither where there should be one")
	}
	for _, turn := range list("", "x", "2", "1/2") {
		dither, e = Dither(cavity(), 1, turn, "d")
		isPower(t, "no turn", dither, e, "", api.ErrTurn)
		dither, e = Dither(cavity(), 3, turn, "d")
		isPower(t, "no link", dither, e, "", api.ErrPort)
		dither, e = Dither(cavity(), 1, turn, "l")
		isPower(t, "no diode", dither, e, "", api.ErrPort)
	}
	// With the conjugate alone the light never leaves.
	dither, e = Dither(changed(perfect(), func(b *api.Bench) { b.Links[0].Turn = "-7/25+24/25i" }), 0, "24/25+7/25i", "d")
	isPower(t, "singular at t", dither, e, "", api.ErrSingular)
	dither, e = Dither(changed(perfect(), func(b *api.Bench) { b.Links[0].Turn = "-7/25+24/25i" }), 0, "24/25-7/25i", "d")
	isPower(t, "singular at the conjugate", dither, e, "", api.ErrSingular)
}
